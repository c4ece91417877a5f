
/- Ports as numbers; what path.usualPort, path.Port, path.normalSigns and path.normalHost do. -/
import Derived.Test.YtlblefcmilfjdaaGreatDoorPaDown
import Derived.Shelf.Strconv.ErrVarAll
import Derived.WalkSmall
import Derived.Lib.SmallJoins
import Derived.Lib.AppendIntMem
import Derived.Test.YtlblefcmilfjdaaGreatDoorUrEs
import Derived.Test.YtlblefcmilfjdaaGreatDoorUrMay
namespace Go.Proofs.YtlblefcmilfjdaaGreatDoor
set_option linter.unusedVariables false
set_option linter.unusedSimpArgs false
open Go.RowKit Go.BigFrame

def digN (acc : Nat) (c : UInt8) : Nat := acc * 10 + (c.toNat - 48)
def valU (acc : Nat) (l : List UInt8) : Nat := l.foldl digN acc
theorem val_cons (acc : Nat) (c : UInt8) (r : List UInt8) : valU acc (c :: r) = valU (digN acc c) r := List.foldl_cons ..
theorem digN_ge (acc : Nat) (c : UInt8) : acc ≤ digN acc c := by unfold digN; omega
theorem val_ge (l : List UInt8) : ∀ acc : Nat, acc ≤ valU acc l := by
  induction l with
  | nil => exact fun acc => Nat.le_refl _
  | cons c r ih => exact fun acc => Nat.le_trans (digN_ge acc c) (ih (digN acc c))
theorem val_app (acc : Nat) (a b : List UInt8) : valU acc (a ++ b) = valU (valU acc a) b := List.foldl_append ..
theorem val_one (acc : Nat) (c : UInt8) : valU acc [c] = digN acc c := List.foldl_cons ..
theorem dig_of (c : UInt8) (h : digitU c = true) : 48 ≤ c.toNat ∧ c.toNat ≤ 57 := by
  unfold digitU at h
  exact of_decide_eq_true h
theorem uint_dig : ∀ (l : List UInt8) (acc : Nat), l.all digitU = true → acc < 18446744073709551616 → Lib.parseUint10 acc l = .ok (valU acc l) ∨ (Lib.parseUint10 acc l = .range ∧ 18446744073709551616 ≤ valU acc l)
  | [], acc, _, _ => .inl rfl
  | c :: r, acc, h, ha => by
    rw [List.all_cons, Bool.and_eq_true] at h
    have hd := dig_of c h.1
    rw [val_cons]
    unfold Lib.parseUint10
    rw [if_pos hd]
    have e : digN acc c = acc * 10 + (c.toNat - 48) := by unfold digN; rfl
    have hge := val_ge r (digN acc c)
    split
    · exact .inr ⟨rfl, by omega⟩
    · split
      · exact .inr ⟨rfl, by omega⟩
      · rename_i h1 h2
        have := uint_dig r (digN acc c) h.2 (by omega)
        rw [e] at this ⊢
        exact this
theorem atoi_dig (l : List UInt8) (hl : l ≠ []) (h : l.all digitU = true) : Lib.atoiAll l = .ok (valU 0 l : Int) ∨ (Lib.atoiAll l = .range ∧ 65535 < valU 0 l) := by
  obtain ⟨c, r, rfl⟩ := List.exists_cons_of_ne_nil hl
  have hc : 48 ≤ c.toNat ∧ c.toNat ≤ 57 := by
    rw [List.all_cons, Bool.and_eq_true] at h
    exact dig_of c h.1
  have h1 : ¬ (c.toNat = 43 ∨ c.toNat = 45) := by omega
  have h2 : ¬ c.toNat = 45 := by omega
  unfold Lib.atoiAll
  simp only [if_neg h1]
  unfold Lib.parseMag
  rw [if_neg hl]
  rcases uint_dig (c :: r) 0 h (by omega) with e | ⟨e, e2⟩
  · rw [e]
    simp only
    by_cases h3 : 9223372036854775808 ≤ valU 0 (c :: r)
    · right
      rw [if_pos ⟨h2, h3⟩]
      exact ⟨rfl, by omega⟩
    · left
      rw [if_neg (fun x => h3 x.2), if_neg (fun x => h2 x.1), if_neg h2]
  · right
    rw [e]
    exact ⟨rfl, by omega⟩
def numU (l : List UInt8) : Nat := if valU 0 l ≤ 65535 then valU 0 l else 0
theorem dec_val : ∀ n : Nat, valU 0 (Lib.decDigits n) = n ∧ (Lib.decDigits n).all digitU = true ∧ Lib.decDigits n ≠ [] := by
  intro n
  induction n using Nat.strongRecOn with
  | _ n ih =>
    rw [Lib.decDigits]
    split
    · rename_i h
      have e : (UInt8.ofNat (48 + n)).toNat = 48 + n := by rw [UInt8.toNat_ofNat']; omega
      refine ⟨?_, ?_, by simp⟩
      · rw [val_one]
        unfold digN
        rw [e]; omega
      · simp only [List.all_cons, List.all_nil, Bool.and_true]
        unfold digitU
        rw [e]
        exact decide_eq_true ⟨by omega, by omega⟩
    · rename_i h
      have e : (UInt8.ofNat (48 + n % 10)).toNat = 48 + n % 10 := by rw [UInt8.toNat_ofNat']; omega
      obtain ⟨h1, h2, h3⟩ := ih (n / 10) (by omega)
      refine ⟨?_, ?_, by simp⟩
      · rw [val_app, h1, val_one]
        unfold digN
        rw [e]; omega
      · rw [List.all_append, h2]
        simp only [List.all_cons, List.all_nil, Bool.and_true, Bool.true_and]
        unfold digitU
        rw [e]
        exact decide_eq_true ⟨by omega, by omega⟩
theorem dec_len : ∀ (k n : Nat), n < 10 ^ (k + 1) → (Lib.decDigits n).length ≤ k + 1
  | 0, n, h => by
    rw [Lib.decDigits, dif_pos (by simpa using h)]; simp
  | k + 1, n, h => by
    rw [Lib.decDigits]
    split
    · simp
    · rw [List.length_append]
      have := dec_len k (n / 10) (by rw [Nat.pow_succ] at h; omega)
      simp only [List.length_singleton]; omega
theorem itoa_dec (n : Nat) : Lib.itoa (n : Int) = Lib.decDigits n := by
  unfold Lib.itoa
  rw [if_neg (by omega)]
  rfl

/-- The name of the table of powers of ten. -/
def pow8 : String := (Rows.pathDotsRow.laid.map (·.1)).getD 2 default
theorem pow8_at : Tryz.prog.globalNamed pow8 = some 3 := by kernel_rfl
theorem syn8_at : Tryz.prog.globalNamed "strconv.ErrSyntax" = some 1 := by kernel_rfl
theorem rng8_at : Tryz.prog.globalNamed "strconv.ErrRange" = some 2 := by kernel_rfl
/-- The library's table of powers of ten, and its two errors. -/
structure TabX (w : World) : Prop where
  tab : TabS w
  big : 3 < w.heap.size
  pow : Lib.TabIs Tryz.prog w pow8 .u64 Lib.pow10Tab
  syn : ∃ te pe, w.var? Tryz.prog "strconv.ErrSyntax" = some #[.iface te pe]
  rng : ∃ te pe, w.var? Tryz.prog "strconv.ErrRange" = some #[.iface te pe]
theorem TabX.below {w w' : World} (h : TabX w) (hb : Below w.heap.size w w') : TabX w' := by
  have hlt := h.big
  obtain ⟨t1, p1, h1⟩ := h.syn
  obtain ⟨t2, p2, h2⟩ := h.rng
  exact ⟨h.tab.below hb, by have := hb.size; omega, Joins.tab_stays pow8_at h.pow hb (Nat.le_refl _), ⟨t1, p1, var?_below hb syn8_at (by omega) h1⟩, ⟨t2, p2, var?_below hb rng8_at (by omega) h2⟩⟩
theorem bytes8_below {w w' : World} {e : TypeId} (h : w' = w ∨ ∃ t, w' = Lib.bytesWorld w e t) : Below w.heap.size w w' := by
  rcases h with rfl | ⟨t, rfl⟩
  · exact Below.refl _ _
  · exact Lib.bytesWorld_below _ _ _
/-- strconv.Atoi, at digits. -/
theorem atoi8 (l : List UInt8) (hs : l.length ≤ 1000000) (hl : l ≠ []) (hd : l.all digitU = true) (w : World) (hT : TabX w) : Calls Tryz.prog 31 #[.string (asS l)] w fun e w' => (∃ v x, e = .returned (.tuple #[.int .i64 v, x]) ∧ ((v = (valU 0 l : Int) ∧ x = .nilIface) ∨ (65535 < valU 0 l ∧ ∃ t p, x = .iface t p))) ∧ Below w.heap.size w w' := by
  obtain ⟨t2, p2, h2⟩ := hT.rng
  have hsz : (asS l).size ≤ 1000000 := by rw [asS_size]; exact hs
  rcases atoi_dig l hl hd with ha | ⟨ha, hb⟩
  · refine (Any.strconv_Atoi_ok Tryz.laysC172 (asS l) (by omega) _ ha w).mono ?_
    rintro e w' ⟨rfl, hw⟩
    exact ⟨⟨_, .nilIface, rfl, .inl ⟨rfl, rfl⟩⟩, bytes8_below hw⟩
  · refine (Any.strconv_Atoi_range_var Tryz.laysC172 (asS l) (by omega) ha t2 p2 w h2).mono ?_
    rintro e w' ⟨N, rfl, _, _, hb2⟩
    exact ⟨⟨_, _, rfl, .inr ⟨hb, _, _, rfl⟩⟩, hb2⟩
theorem itoa8 (n : Nat) (hn : n ≤ 65535) (w : World) (h : TabX w) : Calls Tryz.prog 29 #[.int .i64 (n : Int)] w fun e w' => e = .returned (.string (asS (Lib.decDigits n))) ∧ Below w.heap.size w w' := by
  refine (Any.strconv_Itoa Tryz.laysM171 (n : Int) (by omega) (by omega) w h.pow).mono ?_
  rintro e w' ⟨rfl, k, os, rfl⟩
  exact ⟨by rw [itoa_dec]; rfl, Lib.below_grow _ w (Nat.le_refl _) k os⟩

/-! The reference's Digits. -/
theorem dec_fin : ∀ r : Fin 10, Lib.decDigits r.val = [UInt8.ofNat (48 + r.val)] := fun r => Lib.decDigits_one r.isLt
theorem slice_ten (r : Nat) (h : r < 10) (W : World) : (Instr.slice 9 (.string ⟨#[48, 49, 50, 51, 52, 53, 54, 55, 56, 57]⟩) (some (.int .i64 (r : Int))) (some (.int .i64 ((r : Int) + 1))) none).run Tryz.prog W = .ok (.string (asS (Lib.decDigits r))) W := by
  rw [Lib.decDigits_one h]
  rcases (show r = 0 ∨ r = 1 ∨ r = 2 ∨ r = 3 ∨ r = 4 ∨ r = 5 ∨ r = 6 ∨ r = 7 ∨ r = 8 ∨ r = 9 by omega) with rfl | rfl | rfl | rfl | rfl | rfl | rfl | rfl | rfl | rfl <;> kernel_rfl
set_option maxHeartbeats 1000000 in
theorem dig_small (n : Nat) (h : n < 10) (w : World) : Calls Tryz.prog 34 #[.int .i64 n] w fun e w' => e = .returned (.string (asS (Lib.decDigits n))) ∧ Below w.heap.size w w' := by
  have hlit := fun W => slice_ten n h W
  have h2 : (n : Int) < 10 := by omega
  generalize asS (Lib.decDigits n) = D at hlit ⊢
  go_enter Tryz.func34, Tryz.ntmps34
  go_wp2_with fail
  go_ret
  exact ⟨rfl, Below.refl _ _⟩
set_option maxHeartbeats 1000000 in
theorem dig_step (n : Nat) (h : 10 ≤ n) (h2 : n ≤ 65535) (hd : ∀ W, Calls Tryz.prog 34 #[.int .i64 ((n / 10 : Nat) : Int)] W fun e w' => e = .returned (.string (asS (Lib.decDigits (n / 10)))) ∧ Below W.heap.size W w') (w : World) : Calls Tryz.prog 34 #[.int .i64 n] w fun e w' => e = .returned (.string (asS (Lib.decDigits n))) ∧ Below w.heap.size w w' := by
  have HD := hid hd
  have HM := hid (fun W => dig_small (n % 10) (by omega) W)
  have he : Lib.decDigits n = Lib.decDigits (n / 10) ++ Lib.decDigits (n % 10) := by
    rw [Lib.decDigits_one (show n % 10 < 10 by omega)]
    conv => lhs; rw [Lib.decDigits]
    rw [dif_neg (by omega)]
  have HE := hid he
  have hs1 := dec_len 4 (n / 10) (by omega)
  have hs2 := dec_len 4 (n % 10) (by omega)
  have hz : ¬ (9223372036854775807 < (asS (Lib.decDigits (n / 10))).size + (asS (Lib.decDigits (n % 10))).size) := by rw [asS_size, asS_size]; omega
  have HC := hid (asS_app (Lib.decDigits (n / 10)) (Lib.decDigits (n % 10)))
  clear hd he hs1 hs2
  rw [← HE.out] at HC
  generalize asS (Lib.decDigits n) = R at HC ⊢
  generalize asS (Lib.decDigits (n / 10)) = S1 at HD HC hz
  generalize asS (Lib.decDigits (n % 10)) = S2 at HM HC hz
  have h3 : ¬ (n : Int) < 10 := by omega
  have hq : (n : Int) / 10 = ((n / 10 : Nat) : Int) := by omega
  have hr : (n : Int) % 10 = ((n % 10 : Nat) : Int) := by omega
  generalize hqn : n / 10 = q at HD hq
  generalize hrn : n % 10 = r at HM hr
  have hq2 : (n : Int).tdiv 10 = (q : Int) := by rw [← hq]; exact Int.tdiv_eq_ediv_of_nonneg (by omega)
  have hr2 : (n : Int).tmod 10 = (r : Int) := by rw [← hr]; exact Int.tmod_eq_emod_of_nonneg (by omega)
  have HQN := hid hqn; have HRN := hid hrn
  clear hqn hrn HE
  go_enter Tryz.func34, Tryz.ntmps34
  go_wp2_with fail
  refine (HD.out _).mono ?_
  rintro e W1 ⟨rfl, hb1⟩
  go_wp2_with fail
  refine (HM.out _).mono ?_
  rintro e W2 ⟨rfl, hb2⟩
  go_wp2_with fail
  go_ret
  exact ⟨by rw [← HC.out]; rfl, hb1.trans (hb2.mono hb1.size)⟩
theorem refDigits_any (n : Nat) : n ≤ 65535 → ∀ w : World, Calls Tryz.prog 34 #[.int .i64 n] w fun e w' => e = .returned (.string (asS (Lib.decDigits n))) ∧ Below w.heap.size w w' := by
  induction n using Nat.strongRecOn with
  | _ n ih =>
    intro hn w
    by_cases h : n < 10
    · exact dig_small n h w
    · exact dig_step n (by omega) hn (ih (n / 10) (by omega) (by omega)) w
end Go.Proofs.YtlblefcmilfjdaaGreatDoor
namespace Go.Proofs.YtlblefcmilfjdaaGreatDoor
set_option linter.unusedVariables false
set_option linter.unusedSimpArgs false
open Go.RowKit Go.BigFrame
attribute [local go_sem ↓] loadU_eq

theorem pr_ok (u : UrlV) (h : prOk u = true) : (joinU u).length ≤ 2048 ∧ parseU (joinU u) = some u := by
  obtain ⟨h1, h2⟩ := pr_true u h
  unfold puE at h1
  unfold puV at h2
  by_cases hl : 2048 < (joinU u).length
  · rw [if_pos hl] at h1; cases h1
  · rw [if_neg hl] at h1 h2
    refine ⟨by omega, ?_⟩
    cases hp : parseU (joinU u) with
    | none => rw [hp] at h1; cases h1
    | some v => rw [hp] at h2; exact congrArg some h2
theorem ok_pr (u : UrlV) (hl : (joinU u).length ≤ 2048) (h : parseU (joinU u) = some u) : prOk u = true := (pr_parse (joinU u) u (by omega) h).1
theorem parse_okU (l : List UInt8) (u : UrlV) (h : parseU l = some u) : standsU l = true ∧ okU u = true := by
  unfold parseU at h
  cases hs : standsU l with
  | false => rw [hs, if_pos rfl] at h; cases h
  | true =>
    rw [hs, if_neg (by simp)] at h
    refine ⟨rfl, ?_⟩
    split at h
    · cases h
    · split at h
      · rename_i ho
        injection h with h
        subst h
        exact ho
      · cases h
theorem ok_port (u : UrlV) (h : prOk u = true) : u.port.all digitU = true := by
  have := (parse_okU _ u (pr_ok u h).2).2
  unfold okU at this
  rw [Bool.and_eq_true, Bool.and_eq_true] at this
  exact this.1.2
def usualU (l : List UInt8) : Nat := if l = [104, 116, 116, 112] then 80 else if l = [104, 116, 116, 112, 115] then 443 else 0
theorem usual_any (l : List UInt8) (w : World) : Calls Tryz.prog 28 #[.string (asS l)] w fun e w' => e = .returned (.int .i64 (usualU l : Int)) ∧ w' = w := by
  have q1 := tl_eq l [104, 116, 116, 112]
  have q2 := tl_eq l [104, 116, 116, 112, 115]
  have HU : Hid (usualU l = if l = [104, 116, 116, 112] then 80 else if l = [104, 116, 116, 112, 115] then 443 else 0) := rfl
  by_cases h1 : l = [104, 116, 116, 112]
  · rw [decide_eq_true h1] at q1
    rw [HU.out, if_pos h1]
    clear h1 HU q2
    generalize asS l = S at q1 ⊢
    go_enter Tryz.func28, Tryz.ntmps28
    go_wp2_with fail
    go_ret
    exact ⟨rfl, rfl⟩
  · rw [decide_eq_false h1] at q1
    by_cases h2 : l = [104, 116, 116, 112, 115]
    · rw [decide_eq_true h2] at q2
      rw [HU.out, if_neg h1, if_pos h2]
      clear h1 h2 HU
      generalize asS l = S at q1 q2 ⊢
      go_enter Tryz.func28, Tryz.ntmps28
      go_wp2_with fail
      go_ret
      exact ⟨rfl, rfl⟩
    · rw [decide_eq_false h2] at q2
      rw [HU.out, if_neg h1, if_neg h2]
      clear h1 h2 HU
      generalize asS l = S at q1 q2 ⊢
      go_enter Tryz.func28, Tryz.ntmps28
      go_wp2_with fail
      go_ret
      exact ⟨rfl, rfl⟩
def forUs (u : UrlV) : Bool := prOk u && (!decide (usualU (u.scheme.map lowB) = 0) && (u.hasAuth && (!u.hasUser && (!decide (u.host = []) && !u.hasFrag))))
def portU (u : UrlV) : Nat := if forUs u then (if u.port = [] then usualU (u.scheme.map lowB) else numU u.port) else 0
def portE (u : UrlV) : Int := if portU u = 0 then 1 else 0
theorem port_no (u : UrlV) (h : forUs u = false) : portU u = 0 ∧ portE u = 1 := by
  have h1 : portU u = 0 := by unfold portU; rw [h]; rfl
  exact ⟨h1, by unfold portE; rw [h1]; rfl⟩
theorem usual_le (l : List UInt8) : usualU l ≤ 443 := by
  unfold usualU; split
  · omega
  · split <;> omega
set_option maxHeartbeats 8000000 in
set_option maxRecDepth 100000 in
theorem port_any (u : UrlV) (hu : LenU 100000 u) (w : World) (hT : TabX w) : Calls Tryz.prog 12 #[.agg (ucs u)] w fun e w' => e = .returned (.tuple #[.int .i64 (portU u : Int), .int .i64 (portE u)]) ∧ Below w.heap.size w w' := by
  have HT := hid hT
  have HLO := hid (fun W => lower_any u.scheme W (by have := hu.scheme; omega))
  have HUS := hid (fun W => usual_any (u.scheme.map lowB) W)
  have HCK := hid (fun W h => check_any7 u hu W h)
  have HNO := hid (port_no u)
  have HAT : Hid (prOk u = true → u.port ≠ [] → ∀ W, TabX W → Calls Tryz.prog 31 #[.string (asS u.port)] W fun e w' => (∃ v x, e = .returned (.tuple #[.int .i64 v, x]) ∧ ((v = (valU 0 u.port : Int) ∧ x = .nilIface) ∨ (65535 < valU 0 u.port ∧ ∃ t p, x = .iface t p))) ∧ Below W.heap.size W w') := fun h h2 W hw => atoi8 u.port (by have := hu.port; omega) h2 (ok_port u h) W hw
  have HFU : Hid (forUs u = (prOk u && (!decide (usualU (u.scheme.map lowB) = 0) && (u.hasAuth && (!u.hasUser && (!decide (u.host = []) && !u.hasFrag)))))) := rfl
  have HPU : Hid (portU u = if forUs u then (if u.port = [] then usualU (u.scheme.map lowB) else numU u.port) else 0) := rfl
  have HPE : Hid (portE u = if portU u = 0 then 1 else 0) := rfl
  have HE : Hid (prE u = if prOk u then 0 else 1) := rfl
  have hr0 : (w.alloc (.cells (ucs u) 26)).heap[w.heap.size]? = some (.cells (ucs u) 26 (0, 0)) := heap_alloc_new w _
  have c0 := cellU hr0 0 (.string (asS u.scheme)) rfl
  have HR0 := hid hr0
  have hus := usual_le (u.scheme.map lowB)
  have eh := emp8 u.host
  have ep := emp8 u.port
  clear hT hu hr0
  generalize hpU : portU u = pU at HNO HPU HPE ⊢
  generalize hpE : portE u = pE at HNO HPE ⊢
  clear hpU hpE
  go_enter Tryz.func12, Tryz.ntmps12
  go_wp2_with fail
  refine (HLO.out _).mono ?_
  rintro e W1 ⟨rfl, hb1⟩
  have HR1 := hid (row_keep hb1 HR0.out)
  have HB1 : Hid (Below w.heap.size w W1) := (alloc_below (Below.refl _ w) (Nat.le_refl _) _).trans (hb1.mono (by simp))
  clear hb1 c0
  go_wp2_with fail
  refine (HUS.out _).mono ?_
  rintro e W2 ⟨rfl, rfl⟩
  have l2 := loadU_row HR1.out
  go_wp2_with fail
  refine (HCK.out _ (HT.out.tab.below HB1.out)).mono ?_
  rintro e W3 ⟨rfl, hb3⟩
  have hr3 := row_keep hb3 HR1.out
  have HB3 := hid (HB1.out.trans (hb3.mono HB1.out.size))
  have c2 := cellU hr3 2 (.bool u.hasUser) rfl
  have c3 := cellU hr3 3 (.string (asS u.host)) rfl
  have c4 := cellU hr3 4 (.string (asS u.port)) rfl
  have c6 := cellU hr3 6 (.bool u.hasAuth) rfl
  have c11 := cellU hr3 11 (.bool u.hasFrag) rfl
  have HX3 := hid (HT.out.below HB3.out)
  clear hb3 l2 hr3 HR1 HR0 HLO HUS HCK HT
  generalize usualU (u.scheme.map lowB) = us at HFU HPU hus ⊢
  generalize forUs u = fu at HFU HPU HNO
  generalize hok : prOk u = ok at HFU HE HAT
  clear hok
  generalize prE u = E at HE ⊢
  generalize u.hasAuth = ha at c6 HFU
  generalize u.hasUser = hU at c2 HFU
  generalize u.hasFrag = hf at c11 HFU
  generalize hH : decide (u.host = []) = eH at HFU eh
  clear hH
  generalize asS u.host = SH at c3 eh
  cases ok with
  | false =>
    obtain rfl : E = 1 := HE.out
    obtain ⟨rfl, rfl⟩ := HNO.out HFU.out
    clear c2 c3 c4 c6 c11 eh ep
    go_wp2_with fail
    go_ret2
    exact ⟨rfl, HB3.out⟩
  | true =>
    obtain rfl : E = 0 := HE.out
    by_cases h0 : us = 0
    · subst h0
      obtain ⟨rfl, rfl⟩ := HNO.out HFU.out
      clear c2 c3 c4 c6 c11 eh ep
      go_wp2_with fail
      go_ret2
      exact ⟨rfl, HB3.out⟩
    · have hu0 : ((us : Int) == 0) = false := by rw [beq_eq_false_iff_ne]; omega
      have HF2 : Hid (fu = (ha && (!hU && (!eH && !hf)))) := by
        show _ = _
        rw [HFU.out, decide_eq_false h0]; rfl
      clear HFU
      cases ha with
      | false =>
        obtain ⟨rfl, rfl⟩ := HNO.out HF2.out
        clear c2 c3 c4 c11 eh ep
        go_wp2_with fail
        go_ret2
        exact ⟨rfl, HB3.out⟩
      | true =>
        cases hU with
        | true =>
          obtain ⟨rfl, rfl⟩ := HNO.out HF2.out
          clear c3 c4 c11 eh ep
          go_wp2_with fail
          go_ret2
          exact ⟨rfl, HB3.out⟩
        | false =>
          cases eH with
          | true =>
            obtain ⟨rfl, rfl⟩ := HNO.out HF2.out
            clear c4 c11 ep
            go_wp2_with fail
            go_ret2
            exact ⟨rfl, HB3.out⟩
          | false =>
            cases hf with
            | true =>
              obtain ⟨rfl, rfl⟩ := HNO.out HF2.out
              clear c4 ep
              go_wp2_with fail
              go_ret2
              exact ⟨rfl, HB3.out⟩
            | false =>
              have HF3 : Hid (fu = true) := HF2.out
              have HP2 : Hid (pU = if u.port = [] then us else numU u.port) := by show _ = _; rw [HPU.out, HF3.out]; rfl
              clear HNO HF2 HPU HF3
              by_cases hp : u.port = []
              · rw [decide_eq_true hp] at ep
                have HP3 : Hid (pU = us) := by show _ = _; rw [HP2.out, if_pos hp]
                have HP4 : Hid (pE = 0) := by show _ = _; rw [HPE.out, HP3.out, if_neg h0]
                generalize asS u.port = SP at c4 ep
                clear hp HP2 HPE HAT
                go_wp2_with fail
                go_ret2
                exact ⟨by rw [HP3.out, HP4.out]; rfl, HB3.out⟩
              · rw [decide_eq_false hp] at ep
                have HA := hid (HAT.out rfl hp)
                have HP3 : Hid (pU = if valU 0 u.port ≤ 65535 then valU 0 u.port else 0) := by show _ = _; rw [HP2.out, if_neg hp]; rfl
                generalize asS u.port = SP at c4 ep HA
                generalize valU 0 u.port = V at HA HP3
                clear hp HP2 HAT
                go_wp2_with fail
                refine (HA.out _ HX3.out).mono ?_
                rintro e W4 ⟨⟨v, x, rfl, hvx⟩, hb4⟩
                have HB4 := hid (HB3.out.trans (hb4.mono HB3.out.size))
                clear hb4 c2 c3 c4 c6 c11 eh ep
                rcases hvx with ⟨rfl, rfl⟩ | ⟨hbig, t, p, rfl⟩
                · by_cases h1 : V = 0
                  · subst h1
                    have hlt : ((0 : Nat) : Int) < 1 := by omega
                    have HP4 : Hid (pU = 0) := by show _ = _; rw [HP3.out]; rfl
                    have HP5 : Hid (pE = 1) := by show _ = _; rw [HPE.out, HP4.out]; rfl
                    go_wp2_with fail
                    go_ret2
                    exact ⟨by rw [HP4.out, HP5.out]; rfl, HB4.out⟩
                  · have hlt : ¬ ((V : Nat) : Int) < 1 := by omega
                    by_cases h2 : V ≤ 65535
                    · have hle : ¬ (65535 : Int) < (V : Int) := by omega
                      have HP4 : Hid (pU = V) := by show _ = _; rw [HP3.out, if_pos h2]
                      have HP5 : Hid (pE = 0) := by show _ = _; rw [HPE.out, HP4.out, if_neg h1]
                      clear h1 h2
                      go_wp2_with fail
                      go_ret2
                      exact ⟨by rw [HP4.out, HP5.out]; rfl, HB4.out⟩
                    · have hle : (65535 : Int) < (V : Int) := by omega
                      have HP4 : Hid (pU = 0) := by show _ = _; rw [HP3.out, if_neg h2]
                      have HP5 : Hid (pE = 1) := by show _ = _; rw [HPE.out, HP4.out]; rfl
                      clear h1 h2
                      go_wp2_with fail
                      go_ret2
                      exact ⟨by rw [HP4.out, HP5.out]; rfl, HB4.out⟩
                · have HP4 : Hid (pU = 0) := by show _ = _; rw [HP3.out, if_neg (by omega)]
                  have HP5 : Hid (pE = 1) := by show _ = _; rw [HPE.out, HP4.out]; rfl
                  go_wp2_with fail
                  go_ret2
                  exact ⟨by rw [HP4.out, HP5.out]; rfl, HB4.out⟩
/-! normalSigns. -/
theorem unesc_three (a b : UInt8) (ha : hexU a = true) (hb : hexU b = true) : unescU [37, a, b] = some [twoU a b] := by
  rw [unesc_hex, ha, hb]; rfl
theorem esc_one (v : UInt8) : escU [v] = signU id v := by
  unfold escU signU
  simp
set_option maxHeartbeats 4000000 in
set_option maxRecDepth 100000 in
theorem signs_any (l : List UInt8) (hl : l.length ≤ 100000) (hs : StandsI l) (w : World) : Calls Tryz.prog 27 #[.string (asS l)] w fun e w' => e = .returned (.string (asS (tidyU id l))) ∧ Below w.heap.size w w' := by
  have HU1 : Hid (tidyU id l = [] ++ tidyU id l) := rfl
  generalize hR : tidyU id l = R at HU1 ⊢
  have HU2 : Hid (R = [] ++ tidyU id l) := by show _ = _; rw [hR]; exact HU1.out
  clear hR HU1
  have HUN := hid (fun (a b : UInt8) (ha : hexU a = true) (hb : hexU b = true) W => unescape_any [37, a, b] (by simp) W)
  have HES := hid (fun (v : UInt8) W => escape_any [v] (by simp) W)
  have HWB := hid (fun o c W h h1 h2 => writeByte_any w.heap.size w.heap.size o c W h h1 h2)
  have HWS := hid (fun o x W h h1 h2 => writeStr_any w.heap.size w.heap.size o x W h h1 h2)
  have HST := hid (fun o W h h2 => bstr_any w.heap.size w.heap.size o W h h2)
  have HEF := hid ext_from
  have HET := hid ext_to
  have HIX := hid ix_zero
  have HS0 := hid hs
  clear hs
  go_enter Tryz.func27, Tryz.ntmps27
  go_wp2_with (first
    | (refine wpList_built rfl 62 _ rfl #[.pointer none, .slice none 0 0] built_bld ?_)
    | (refine store_bld rfl _ _ rfl w.heap.size rfl rfl _ (heap_alloc_new w _) rfl ?_)
    | fail)
  intro W0 hO0 hW0
  have HD0 : Hid (Bd w.heap.size w.heap.size [] W0) := Bd.row (Nat.le_refl _) hW0
  have HB0 : Hid (Below w.heap.size w W0) := (alloc_below (Below.refl _ w) (Nat.le_refl _) _).trans (hO0.below (Nat.le_refl _))
  clear hO0 hW0
  go_wp2_with fail
  go_loopw [0] (fun v wr => ∃ r o : List UInt8, v = .string (asS r) ∧ o.length + r.length ≤ 100000 ∧ Hid (StandsI r) ∧ Hid (Bd w.heap.size w.heap.size o wr) ∧ Hid (R = o ++ tidyU id r) ∧ Hid (Below w.heap.size w wr)) (fun v _ => unR v)
  case atStart => exact ⟨l, [], rfl, by simpa using hl, HS0, HD0, HU2, HB0⟩
  case round =>
    obtain ⟨r, o, rfl, hlen, HSI, HD, HU, HB⟩ := hrel
    have zB := HB.out.size
    rcases HSI.out.parts with rfl | ⟨c, t, rfl, hcb, hc, ht⟩ | ⟨a, b, t, rfl, ha, hb, ht⟩
    · skip
      have hsz := emp8 []
      have HQ : Hid (R = o) := by show _ = _; rw [HU.out]; simp [tidyU]
      rw [decide_eq_true rfl] at hsz
      generalize asS [] = S at hsz ⊢
      go_wp2_with fail
      refine (HST.out o _ HD.out zB).mono ?_
      rintro e W2 ⟨rfl, hb2⟩
      have HB2 := hid (HB.out.trans hb2)
      clear hb2
      go_wp2_with fail
      go_ret
      exact ⟨by rw [HQ.out]; rfl, HB2.out⟩
    · skip
      have hsz := emp8 (c :: t)
      rw [decide_eq_false (by simp)] at hsz
      have hix := HIX.out c t
      have hne : ¬ (c.toNat : Int) = 37 := fun h => hc (UInt8.toNat_inj.1 (by show c.toNat = 37; omega))
      simp only [List.length_cons] at hlen
      have hE1 : (asS (c :: t)).extract 1 (asS (c :: t)).size = asS t := HEF.out (c :: t) 1
      have hs1 : (1 : Int) ≤ ((asS (c :: t)).size : Int) := by rw [asS_size]; simp; omega
      have HM : Hid (unR (.string (asS t)) < unR (.string (asS (c :: t)))) := by show (asS t).size < (asS (c :: t)).size; rw [asS_size, asS_size]; simp
      have HQ : Hid (R = (o ++ [c]) ++ tidyU id t) := by show _ = _; rw [HU.out, tidy_cons id c t hc]; simp
      have HTI := hid ht
      clear hc ht hcb HSI HU
      generalize asS (c :: t) = S at hsz hix hE1 hs1 HM ⊢
      go_wp2_with fail
      refine (HWB.out o c _ HD.out (by omega) HB.out.size).mono ?_
      rintro e W2 ⟨rfl, hd2, hb2⟩
      have HB2 := hid (HB.out.trans hb2)
      have HD2 := hid hd2
      clear hb2 hd2
      go_wp2_with fail
      go_roundw
      case rel => exact ⟨t, o ++ [c], rfl, by simp; omega, HTI, HD2, HQ, HB2⟩
      case measure => exact HM.out
    · skip
      have hsz := emp8 (37 :: a :: b :: t)
      rw [decide_eq_false (by simp)] at hsz
      have hix := HIX.out 37 (a :: b :: t)
      simp only [List.length_cons] at hlen
      have hE3 : (asS (37 :: a :: b :: t)).extract 3 (asS (37 :: a :: b :: t)).size = asS t := HEF.out (37 :: a :: b :: t) 3
      have hE0 : (asS (37 :: a :: b :: t)).extract 0 3 = asS [37, a, b] := HET.out (37 :: a :: b :: t) 3
      have hs3 : (3 : Int) ≤ ((asS (37 :: a :: b :: t)).size : Int) := by rw [asS_size]; simp; omega
      have HM : Hid (unR (.string (asS t)) < unR (.string (asS (37 :: a :: b :: t)))) := by show (asS t).size < (asS (37 :: a :: b :: t)).size; rw [asS_size, asS_size]; simp; omega
      have HQ : Hid (R = (o ++ signU id (twoU a b)) ++ tidyU id t) := by show _ = _; rw [HU.out, tidy_hex]; simp
      have hun := unesc_three a b ha hb
      have HUN2 : Hid (∀ W, Calls Tryz.prog 45 #[.string (asS [37, a, b])] W fun e w' => e = .returned (.tuple #[.string (asS [twoU a b]), .int .i64 0]) ∧ Below W.heap.size W w') := fun W => by
        have := HUN.out a b ha hb W
        rw [hun] at this
        exact this
      have HES2 : Hid (∀ W, Calls Tryz.prog 47 #[.string (asS [twoU a b])] W fun e w' => e = .returned (.string (asS (signU id (twoU a b)))) ∧ Below W.heap.size W w') := fun W => by
        have := HES.out (twoU a b) W
        rw [esc_one] at this
        exact this
      have hsl := sign_len id (twoU a b)
      have HTI := hid ht
      clear ht hun ha hb HSI HU HUN HES
      generalize asS (37 :: a :: b :: t) = S at hsz hix hE3 hE0 hs3 HM ⊢
      generalize asS [37, a, b] = S3 at hE0 HUN2
      generalize asS [twoU a b] = SV at HUN2 HES2
      generalize signU id (twoU a b) = sg at HES2 HQ hsl
      go_wp2_with fail
      refine (HUN2.out _).mono ?_
      rintro e W1 ⟨rfl, hb1⟩
      have HB1 := hid (HB.out.trans (hb1.mono HB.out.size))
      have HD1 := hid (HD.out.below hb1)
      clear hb1
      go_wp2_with fail
      refine (HES2.out _).mono ?_
      rintro e W2 ⟨rfl, hb2⟩
      have HB2 := hid (HB1.out.trans (hb2.mono HB1.out.size))
      have HD2 := hid (HD1.out.below hb2)
      clear hb2
      go_wp2_with fail
      refine (HWS.out o sg _ HD2.out (by omega) HB2.out.size).mono ?_
      rintro e W3 ⟨rfl, hd3, hb3⟩
      have HB3 := hid (HB2.out.trans hb3)
      have HD3 := hid hd3
      clear hb3 hd3
      go_wp2_with fail
      go_roundw
      case rel => exact ⟨t, o ++ sg, rfl, by rw [List.length_append]; omega, HTI, HD3, HQ, HB3⟩
      case measure => exact HM.out
theorem host8_any (l : List UInt8) (hl : l.length ≤ 100000) (hs : StandsI l) (w : World) : Calls Tryz.prog 25 #[.string (asS l)] w fun e w' => e = .returned (.string (asS (tidyU lowB l))) ∧ Below w.heap.size w w' := by
  have H1 := hid (fun W => signs_any l hl hs W)
  have h1l := tidy_len id hs
  have H2 := hid (fun W => lower_any (tidyU id l) W (by omega))
  have ht := tidy_host hs
  have H3 := hid (fun W => signs_any ((tidyU id l).map lowB) (by rw [List.length_map]; omega) ht.2 W)
  rw [ht.1] at H3
  clear hs h1l ht hl
  go_enter Tryz.func25, Tryz.ntmps25
  go_wp2_with fail
  refine (H1.out _).mono ?_
  rintro e W1 ⟨rfl, hb1⟩
  go_wp2_with fail
  refine (H2.out _).mono ?_
  rintro e W2 ⟨rfl, hb2⟩
  go_wp2_with fail
  refine (H3.out _).mono ?_
  rintro e W3 ⟨rfl, hb3⟩
  go_wp2_with fail
  go_ret
  have h12 := hb1.trans (hb2.mono hb1.size)
  exact ⟨rfl, h12.trans (hb3.mono h12.size)⟩
end Go.Proofs.YtlblefcmilfjdaaGreatDoor
