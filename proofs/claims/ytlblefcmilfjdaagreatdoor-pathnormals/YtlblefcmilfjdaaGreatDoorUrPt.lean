
/- What url.parts does. -/
import Derived.Test.YtlblefcmilfjdaaGreatDoorUrAu
import Derived.Deep.DeepCutAuto
namespace Go.Proofs.YtlblefcmilfjdaaGreatDoor
set_option linter.unusedVariables false
set_option linter.unusedSimpArgs false
open Go.RowKit Go.BigFrame

theorem cutc_any (c : UInt8) (l : List UInt8) (hl : l.length ≤ 1000000) (w : World) (hT : TabS w) : Calls Tryz.prog 66 #[.string (asS l), .string ⟨#[c]⟩] w fun e w' => e = .returned (.tuple #[.string (asS (Lib.cut l [c]).1), .string (asS (Lib.cut l [c]).2.1), .bool (Lib.cut l [c]).2.2]) ∧ Below w.heap.size w w' := by
  obtain ⟨m, hm⟩ := hT.max
  refine (Tryz.strings_Cut (asS l) ⟨#[c]⟩ m w (by rw [asS_size]; omega) hm).mono ?_
  rintro e w' ⟨rfl, n, rfl⟩
  exact ⟨rfl, below_drewN _ _ _⟩
theorem cutPre_two (l : List UInt8) (w : World) : Calls Tryz.prog 89 #[.string (asS l), .string ⟨#[47, 47]⟩] w fun e w' => e = .returned (.tuple #[.string (asS (if Lib.hasPrefix l [47, 47] then l.drop 2 else l)), .bool (Lib.hasPrefix l [47, 47])]) ∧ w' = w := Tryz.strings_CutPrefix (asS l) ⟨#[47, 47]⟩ w
theorem idx_one (c : UInt8) (l : List UInt8) (w : World) : Calls Tryz.prog 87 #[.string (asS l), .string ⟨#[c]⟩] w fun e w' => e = .returned (.int .i64 (Lib.indexByte l c)) ∧ w' = w := Tryz.strings_Index_one (asS l) c w
theorem has_one (c : UInt8) (l : List UInt8) (w : World) : Calls Tryz.prog 92 #[.string (asS l), .string ⟨#[c]⟩] w fun e w' => e = .returned (.bool (decide (0 ≤ Lib.indexByte l c))) ∧ w' = w := Tryz.strings_Contains_one (asS l) c w
theorem asS_app (x y : List UInt8) : asS x ++ asS y = asS (x ++ y) := by
  apply ByteArray.ext
  rw [ByteArray.data_append]
  simp [asS]
theorem ext_from (l : List UInt8) (k : Nat) : (asS l).extract k (asS l).size = asS (l.drop k) := by
  rw [ext_asS, asS_data, asS_size, List.take_of_length_le (by simp)]
theorem ext_to (l : List UInt8) (k : Nat) : (asS l).extract 0 k = asS (l.take k) := by
  rw [ext_asS, asS_data]; simp
theorem row_keep {V W : World} {g : Nat} {o : Obj} (h : Below V.heap.size V W) (hr : V.heap[g]? = some o) : W.heap[g]? = some o := (h.block g (Array.getElem?_eq_some_iff.1 hr).1).trans hr
theorem row_lt {V : World} {g : Nat} {o : Obj} (hr : V.heap[g]? = some o) : g < V.heap.size := (Array.getElem?_eq_some_iff.1 hr).1

/-- A part: no longer, of the same bytes. -/
def PartOf (l x : List UInt8) : Prop := x.length ≤ l.length ∧ ∀ c ∈ x, c ∈ l
theorem PartOf.refl (l : List UInt8) : PartOf l l := ⟨Nat.le_refl _, fun _ h => h⟩
theorem PartOf.nil (l : List UInt8) : PartOf l [] := ⟨Nat.zero_le _, fun _ h => by cases h⟩
theorem PartOf.trans {l x y : List UInt8} (h : PartOf l x) (k : PartOf x y) : PartOf l y := ⟨Nat.le_trans k.1 h.1, fun c hc => h.2 c (k.2 c hc)⟩
theorem PartOf.take (l : List UInt8) (k : Nat) : PartOf l (l.take k) := ⟨by rw [List.length_take]; omega, fun c hc => List.mem_of_mem_take hc⟩
theorem PartOf.drop (l : List UInt8) (k : Nat) : PartOf l (l.drop k) := ⟨by rw [List.length_drop]; omega, fun c hc => List.mem_of_mem_drop hc⟩
theorem PartOf.cut (c : UInt8) (l : List UInt8) : PartOf l (Lib.cut l [c]).1 ∧ PartOf l (Lib.cut l [c]).2.1 := by
  unfold Lib.cut
  split
  · exact ⟨PartOf.take l _, PartOf.drop l _⟩
  · exact ⟨PartOf.refl l, PartOf.nil l⟩
theorem PartOf.asc {l x : List UInt8} (h : PartOf l x) (ha : Asc l) : Asc x := fun c hc => ha c (h.2 c hc)
structure AllOf (l : List UInt8) (u : UrlV) : Prop where
  user : PartOf l u.user
  host : PartOf l u.host
  port : PartOf l u.port
  path : PartOf l u.path
  query : PartOf l u.query
  frag : PartOf l u.frag
theorem AllOf.auth {l a : List UInt8} {u : UrlV} (h : AllOf l u) (ha : PartOf l a) : AllOf l (authU a u) := by
  have key : ∀ x c y, PartOf l (x ++ c :: y) → PartOf l x ∧ PartOf l y := fun x c y hp => by
    refine ⟨⟨?_, fun d hd => hp.2 d (by simp [hd])⟩, ⟨?_, fun d hd => hp.2 d (by simp [hd])⟩⟩
    · have := hp.1; simp at this; omega
    · have := hp.1; simp at this; omega
  unfold authU
  cases h1 : lastCut 64 (fun _ => false) a with
  | none =>
    simp only
    cases h2 : lastCut 58 (fun c => c == 93) a with
    | none => exact ⟨h.user, ha, h.port, h.path, h.query, h.frag⟩
    | some q =>
      obtain ⟨x, y⟩ := q
      have e := lastCut_app _ _ _ _ _ h2
      rw [e] at ha
      exact ⟨h.user, (key _ _ _ ha).1, (key _ _ _ ha).2, h.path, h.query, h.frag⟩
  | some q =>
    obtain ⟨x0, y0⟩ := q
    have e0 := lastCut_app _ _ _ _ _ h1
    rw [e0] at ha
    simp only
    cases h2 : lastCut 58 (fun c => c == 93) y0 with
    | none => exact ⟨(key _ _ _ ha).1, (key _ _ _ ha).2, h.port, h.path, h.query, h.frag⟩
    | some q =>
      obtain ⟨x, y⟩ := q
      have e := lastCut_app _ _ _ _ _ h2
      have hy := (key _ _ _ ha).2
      rw [e] at hy
      exact ⟨(key _ _ _ ha).1, (key _ _ _ hy).1, (key _ _ _ hy).2, h.path, h.query, h.frag⟩
theorem AllOf.asc {l : List UInt8} {u : UrlV} (h : AllOf l u) (ha : Asc l) : Asc (u.user ++ u.path ++ u.query ++ u.frag) := fun c hc => by
  simp only [List.mem_append] at hc
  rcases hc with ((hc | hc) | hc) | hc
  · exact ha c (h.user.2 c hc)
  · exact ha c (h.path.2 c hc)
  · exact ha c (h.query.2 c hc)
  · exact ha c (h.frag.2 c hc)
theorem headC_yes (s3 : List UInt8) (u : UrlV) (h : Lib.hasPrefix s3 [47, 47] = true) : headC s3 u = authU (Lib.cut (s3.drop 2) [47]).1 { u with hasAuth := true, path := (s3.drop 2).drop (Lib.cut (s3.drop 2) [47]).1.length } := by
  unfold headC; rw [h]; rfl
theorem headC_not (s3 : List UInt8) (u : UrlV) (h : Lib.hasPrefix s3 [47, 47] = false) : headC s3 u = { u with path := s3 } := by
  unfold headC; rw [h]; rfl

theorem tab_only {w w' : World} {b : Nat} (h : TabS w) (hO : Only b w w') (hb : 0 < b) : TabS w' := by
  obtain ⟨m, hm⟩ := h.max
  exact ⟨m, by rw [(hO.below (B := b) (Nat.le_refl _)).cell (p := ⟨0, 0, none⟩) hb]; exact hm⟩
theorem tab_set {w : World} {b j : Nat} {v : Value} (h : TabS w) (hb : 0 < b) : TabS (w.setCell ⟨b, j, none⟩ v) := tab_only h (only_set b j v w) hb
theorem heap_second (w : World) (o1 o2 : Obj) : ((w.alloc o1).alloc o2).heap[w.heap.size + 1]? = some o2 := by
  have := heap_alloc_new (w.alloc o1) o2
  rwa [show (w.alloc o1).heap.size = w.heap.size + 1 from by simp] at this
theorem heap_first (w : World) (o1 o2 : Obj) : ((w.alloc o1).alloc o2).heap[w.heap.size]? = some o1 := (Below.heap_alloc _ _ _ (by simp)).trans (heap_alloc_new w o1)
def TAIL (f q : List UInt8) (hf hq : Bool) : UrlV := { zeroU with frag := f, hasFrag := hf, query := q, hasQuery := hq }
theorem storeU_eq (x v : Value) : Instr.storeAt 26 x v = storeI 26 x v := rfl
def putU (w : World) (g : Nat) (u : UrlV) : World := w.setCells g 0 (uvs u)
theorem putU_only (w : World) (g : Nat) (u : UrlV) : Only g w (putU w g u) := only_setCells g (uvs u) 0 w
theorem putU_row {w : World} {g : Nat} {u : UrlV} {cs : Array Value} (hrow : w.heap[g]? = some (.cells cs 26 (0, 0))) (hcs : cs.size = 12) : (putU w g u).heap[g]? = some (.cells (ucs u) 26 (0, 0)) := by
  unfold putU
  rw [setCells_heap g 26 (uvs u) 0 w cs hrow]
  exact congrArg (fun c => some (Obj.cells c 26 (0, 0))) (over_whole cs (ucs u) (by rw [ucs_size, hcs]))
theorem storeU_row {w : World} {g : Nat} {u : UrlV} {cs : Array Value} (hrow : w.heap[g]? = some (.cells cs 26 (0, 0))) (hcs : cs.size = 12) : (storeI 26 (.pointer (some ⟨g, 0, none⟩)) (.agg (ucs u))).run Tryz.prog w = .ok () (putU w g u) :=
  run_storeAt_mid w g 0 26 (ucs u) (there_row hrow 0 (ucs u).size (by rw [ucs_size, hcs]; exact Nat.le_refl _)) (ucs_info u) (ucs_one u)
theorem drew_below7 {V W : World} (h : Below V.drew.heap.size V.drew W) : Below V.heap.size V W := ((Below.refl V.heap.size V).drew).trans h
attribute [local go_sem ↓] loadU_eq storeU_eq
theorem tab_below1 {w w' : World} {b : Nat} (h : TabS w) (hO : Below b w w') (hb : 0 < b) : TabS w' := by
  obtain ⟨m, hm⟩ := h.max
  exact ⟨m, by rw [hO.cell (p := ⟨0, 0, none⟩) hb]; exact hm⟩
set_option maxHeartbeats 8000000 in
set_option maxRecDepth 100000 in
theorem parts_any (l : List UInt8) (hl : l.length ≤ 100000) (ha : Asc l) (w : World) (hT : TabS w) : Calls Tryz.prog 65 #[.string (asS l)] w fun e w' => e = .returned (.tuple #[.agg (ucs (partsC l).1), .bool (partsC l).2]) ∧ Below w.heap.size w w' := by
  obtain ⟨s1, f, hf, h1⟩ : ∃ s1 f hf, Lib.cut l [35] = (s1, f, hf) := ⟨_, _, _, rfl⟩
  obtain ⟨s2, q, hq, h2⟩ : ∃ s2 q hq, Lib.cut s1 [63] = (s2, q, hq) := ⟨_, _, _, rfl⟩
  obtain ⟨F, g, hg, h3⟩ : ∃ F g hg, Lib.cut s2 [47] = (F, g, hg) := ⟨_, _, _, rfl⟩
  have p1 : PartOf l s1 := by have := (PartOf.cut 35 l).1; rw [h1] at this; exact this
  have pf : PartOf l f := by have := (PartOf.cut 35 l).2; rw [h1] at this; exact this
  have p2 : PartOf l s2 := p1.trans (by have := (PartOf.cut 63 s1).1; rw [h2] at this; exact this)
  have pq : PartOf l q := p1.trans (by have := (PartOf.cut 63 s1).2; rw [h2] at this; exact this)
  have HC1 : Hid (∀ W, TabS W → Calls Tryz.prog 66 #[.string (asS l), .string ⟨#[35]⟩] W fun e w' => e = .returned (.tuple #[.string (asS s1), .string (asS f), .bool hf]) ∧ Below W.heap.size W w') := fun W h => by have := cutc_any 35 l (by omega) W h; rw [h1] at this; exact this
  have HC2 : Hid (∀ W, TabS W → Calls Tryz.prog 66 #[.string (asS s1), .string ⟨#[63]⟩] W fun e w' => e = .returned (.tuple #[.string (asS s2), .string (asS q), .bool hq]) ∧ Below W.heap.size W w') := fun W h => by have := cutc_any 63 s1 (by have := p1.1; omega) W h; rw [h2] at this; exact this
  have HC3 : Hid (∀ W, TabS W → Calls Tryz.prog 66 #[.string (asS s2), .string ⟨#[47]⟩] W fun e w' => e = .returned (.tuple #[.string (asS F), .string (asS g), .bool hg]) ∧ Below W.heap.size W w') := fun W h => by have := cutc_any 47 s2 (by have := p2.1; omega) W h; rw [h3] at this; exact this
  have HIX := hid (fun W => idx_one 58 F W)
  have hrest : restC l = s2 := by unfold restC; rw [h1]; simp only; rw [h2]
  have htail : tailC l = TAIL f q hf hq := by unfold tailC TAIL; rw [h1]; simp only; rw [h2]
  have hfirst : firstC s2 = Lib.indexByte F 58 := by unfold firstC; rw [h3]
  have hlt : 0 ≤ Lib.indexByte F 58 → (Lib.indexByte F 58).toNat < s2.length := fun h => by
    have := (schC_yes l (by rw [hrest, hfirst]; exact h)).1
    rwa [hrest, hfirst] at this
  have HPC : Hid (partsC l = if 0 ≤ Lib.indexByte F 58 then
      (if isSchB (s2.take (Lib.indexByte F 58).toNat) then
        (headC (s2.drop ((Lib.indexByte F 58).toNat + 1)) { TAIL f q hf hq with scheme := s2.take (Lib.indexByte F 58).toNat },
         okC (headC (s2.drop ((Lib.indexByte F 58).toNat + 1)) { TAIL f q hf hq with scheme := s2.take (Lib.indexByte F 58).toNat }))
       else (zeroU, false))
    else (headC s2 (TAIL f q hf hq), okC (headC s2 (TAIL f q hf hq)))) := by show _ = _; unfold partsC; rw [hrest, htail, hfirst]
  generalize partsC l = PR at HPC ⊢
  generalize Lib.indexByte F 58 = n at HIX hlt HPC
  have PF := hid pf; have P2 := hid p2; have PQ := hid pq; have HA := hid ha; have HLL := hid hl
  have HT := hid hT
  clear h1 h2 h3 hrest htail hfirst p1 pf p2 pq ha hl hT
  go_enter Tryz.func65, Tryz.ntmps65
  go_wp2_with (first
    | (refine wpList_built rfl 26 _ rfl (ucs zeroU) built_urlZ ?_)
    | (refine store_url rfl _ _ rfl (w.heap.size + 1) zeroU rfl rfl _ (heap_second w _ _) rfl ?_)
    | fail)
  intro W0 hO hW
  obtain ⟨CZ, HCZ, HZS⟩ : ∃ CZ : Array Value, Hid (W0.heap[w.heap.size]? = some (.cells CZ 26 (0, 0))) ∧ Hid (CZ.size = 12) := ⟨_, (hO.block _ (by omega)).trans (heap_first w _ _), rfl⟩
  have HBW : Hid (Below w.heap.size w W0) := (alloc_below (alloc_below (Below.refl _ w) (Nat.le_refl _) _) (by simp) _).trans (hO.below (by omega))
  have z0 : w.heap.size + 2 ≤ W0.heap.size := by rw [hO.size]; simp
  have HR0 := hid hW
  have HB0 : Hid (Below (w.heap.size + 1) W0 W0) := Below.refl _ _
  have HT0 := hid (HT.out.below HBW.out)
  clear hO hW HT
  go_wp2_with fail
  refine (HC1.out _ HT0.out).mono ?_
  rintro e W1 ⟨rfl, hb⟩
  have HR1 := hid (row_keep hb HR0.out)
  have HB1 := hid (HB0.out.trans (hb.mono (by omega)))
  have z1 : w.heap.size + 2 ≤ W1.heap.size := Nat.le_trans z0 hb.size
  have HT1 := hid (HT0.out.below hb)
  clear hb HR0 HB0 HT0 z0
  go_wp2_with (first
    | (refine store_fld rfl 9 _ _ rfl (w.heap.size + 1) 10 (.string (asS f)) zeroU { zeroU with frag := f } rfl rfl info9 (by omega) rfl rfl HR1.out rfl ?_)
    | fail)
  intro W2 hO hW
  have HR2 := hid hW
  have HB2 := hid (HB1.out.trans (hO.below (Nat.le_refl _)))
  have z2 : w.heap.size + 2 ≤ W2.heap.size := by rw [hO.size]; exact z1
  have HT2 := hid (tab_only HT1.out hO (by omega))
  clear hO hW HR1 HB1 HT1 z1
  go_wp2_with (first
    | (refine store_fld rfl 4 _ _ rfl (w.heap.size + 1) 11 (.bool hf) { zeroU with frag := f } { zeroU with frag := f, hasFrag := hf } rfl rfl info4 (by omega) rfl rfl HR2.out rfl ?_)
    | fail)
  intro W3 hO hW
  have HR3 := hid hW
  have HB3 := hid (HB2.out.trans (hO.below (Nat.le_refl _)))
  have z3 : w.heap.size + 2 ≤ W3.heap.size := by rw [hO.size]; exact z2
  have HT3 := hid (tab_only HT2.out hO (by omega))
  clear hO hW HR2 HB2 HT2 z2
  go_wp2_with fail
  refine (HC2.out _ HT3.out).mono ?_
  rintro e W4 ⟨rfl, hb⟩
  have HR4 := hid (row_keep hb HR3.out)
  have HB4 := hid (HB3.out.trans (hb.mono (by omega)))
  have z4 : w.heap.size + 2 ≤ W4.heap.size := Nat.le_trans z3 hb.size
  have HT4 := hid (HT3.out.below hb)
  clear hb HR3 HB3 HT3 z3
  go_wp2_with (first
    | (refine store_fld rfl 9 _ _ rfl (w.heap.size + 1) 8 (.string (asS q)) { zeroU with frag := f, hasFrag := hf } { zeroU with frag := f, hasFrag := hf, query := q } rfl rfl info9 (by omega) rfl rfl HR4.out rfl ?_)
    | fail)
  intro W5 hO hW
  have HR5 := hid hW
  have HB5 := hid (HB4.out.trans (hO.below (Nat.le_refl _)))
  have z5 : w.heap.size + 2 ≤ W5.heap.size := by rw [hO.size]; exact z4
  have HT5 := hid (tab_only HT4.out hO (by omega))
  clear hO hW HR4 HB4 HT4 z4
  go_wp2_with (first
    | (refine store_fld rfl 4 _ _ rfl (w.heap.size + 1) 9 (.bool hq) { zeroU with frag := f, hasFrag := hf, query := q } (TAIL f q hf hq) rfl rfl info4 (by omega) rfl rfl HR5.out rfl ?_)
    | fail)
  intro W6 hO hW
  have HR6 := hid hW
  have HB6 := hid (HB5.out.trans (hO.below (Nat.le_refl _)))
  have z6 : w.heap.size + 2 ≤ W6.heap.size := by rw [hO.size]; exact z5
  have HT6 := hid (tab_only HT5.out hO (by omega))
  clear hO hW HR5 HB5 HT5 z5
  go_wp2_with fail
  refine (HC3.out _ HT6.out).mono ?_
  rintro e W7 ⟨rfl, hb⟩
  have HR7 := hid (row_keep hb HR6.out)
  have HB7 := hid (HB6.out.trans (hb.mono (by omega)))
  have z7 : w.heap.size + 2 ≤ W7.heap.size := Nat.le_trans z6 hb.size
  have HT7 := hid (HT6.out.below hb)
  clear hb HR6 HB6 HT6 z6
  go_wp2_with fail
  refine (HIX.out _).mono ?_
  rintro e W7 ⟨rfl, rfl⟩
  go_upto_if 41 with (fail)
  go_cut [0] (fun v wx => ∃ s3 u3, v = .string (asS s3) ∧ w.heap.size + 2 ≤ wx.heap.size ∧ Hid (wx.heap[w.heap.size + 1]? = some (.cells (ucs u3) 26 (0, 0))) ∧ Hid (Below (w.heap.size + 1) W0 wx) ∧ Hid (TabS wx) ∧ Hid (PartOf l s3) ∧ Hid (AllOf l u3) ∧ Hid (PR = (headC s3 u3, okC (headC s3 u3))))
  case first =>
    by_cases hn : 0 ≤ n
    · have hk0 := hlt hn
      rw [if_pos hn] at HPC
      obtain ⟨k, rfl⟩ : ∃ k : Nat, n = (k : Int) := ⟨n.toNat, by omega⟩
      rw [Int.toNat_natCast] at HPC hk0
      have hE1 := ext_to s2 k
      have hE2 := ext_from s2 (k + 1)
      have hz : (k : Int) + 1 ≤ ((asS s2).size : Int) := by rw [asS_size]; omega
      have hz3 : (asS s2).size ≤ 100000 := by rw [asS_size]; exact Nat.le_trans P2.out.1 HLL.out
      have hw64 : wrap64 ((k : Int) + 1) = (k : Int) + 1 := by unfold wrap64; omega
      generalize ha1 : s2.take k = a1 at HPC hE1
      generalize hr3 : s2.drop (k + 1) = r3 at HPC hE2
      have P3 : Hid (PartOf l r3) := P2.out.trans (hr3 ▸ PartOf.drop s2 (k + 1))
      have ha1l : a1.length ≤ 100000 := by rw [← ha1]; exact Nat.le_trans (PartOf.take s2 k).1 (Nat.le_trans P2.out.1 HLL.out)
      have HIS := hid (fun W => isScheme_any a1 (by omega) W)
      generalize asS s2 = S2 at hE1 hE2 hz hz3 ⊢
      clear hlt ha1 hr3 hk0 ha1l
      have c0 := cellU HR7.out 0 _ rfl
      have f0 := frozen_of_row W7 _ 0 _ _ HR7.out
      go_wp2_with fail
      go_region
      generalize hWe : World.drew _ = W8
      have HR8 : Hid (W8.heap[w.heap.size + 1]? = some (.cells (ucs { TAIL f q hf hq with scheme := a1 }) 26 (0, 0))) := by rw [← hWe]; exact heap_setCell_same _ _ _ _ _ _ HR7.out
      have HB8 : Hid (Below (w.heap.size + 1) W0 W8) := by rw [← hWe]; exact (HB7.out.setCell (Nat.le_refl _) _).drew
      have HT8 : Hid (TabS W8) := by rw [← hWe]; exact (tab_set HT7.out (by omega)).below (below_drewN _ _ 1)
      have z8 : w.heap.size + 2 ≤ W8.heap.size := by rw [← hWe]; simp; exact z7
      clear hWe c0 f0 hE1 hE2 hz hz3 hw64 HR7 HB7 HT7 z7
      have c0 := cellU HR8.out 0 (.string (asS a1)) rfl
      go_wp2_with fail
      refine (HIS.out _).mono ?_
      rintro e W8 ⟨rfl, rfl⟩
      clear c0 HIS
      cases hsb : isSchB a1 with
      | false =>
        rw [hsb] at HPC
        have HQ : Hid (PR = (zeroU, false)) := HPC.out
        clear hsb HPC
        go_wp2_with (first
          | (refine wpList_built rfl 26 _ rfl (ucs zeroU) built_urlZ ?_)
          | (refine store_url rfl _ _ rfl w.heap.size zeroU rfl rfl _ ((HB8.out.block _ (by omega)).trans HCZ.out) HZS.out ?_)
          | fail)
        intro Wf hOf hWf
        go_wp2
        refine bodyPost_ret (ret_url2 (p := 2) (q := 3) Tryz.results65 _ _ w.heap.size zeroU (0, 0) _ rfl rfl hWf) rfl ⟨?_, HBW.out.trans ((HB8.out.mono (by omega)).trans (hOf.below (Nat.le_refl _)))⟩
        rw [HQ.out]; rfl
      | true =>
        rw [hsb] at HPC
        simp only [if_true] at HPC
        clear hsb
        go_wp2_with fail
        go_meet
        case rel => exact ⟨r3, _, rfl, z8, HR8, HB8, HT8, P3, ⟨PartOf.nil l, PartOf.nil l, PartOf.nil l, PartOf.nil l, PQ.out, PF.out⟩, HPC⟩
    · rw [if_neg hn] at HPC
      clear hlt
      go_wp2_with fail
      go_meet
      case rel => exact ⟨s2, _, rfl, z7, HR7, HB7, HT7, P2, ⟨PartOf.nil l, PartOf.nil l, PartOf.nil l, PartOf.nil l, PQ.out, PF.out⟩, HPC⟩
  case rest =>
    clear HPC HR7 HB7 HT7 z7 HC1 HC2 HC3 HIX hlt
    obtain ⟨s3, u3, rfl, z17, HR17, HB17, HT17, P3, HAL, HPC⟩ := hcut
    obtain ⟨W17, hV⟩ : ∃ V, V = wc := ⟨_, rfl⟩
    subst hV
    have HCP := hid (fun W => cutPre_two s3 W)
    generalize hpb : Lib.hasPrefix s3 [47, 47] = pb at HCP
    generalize hR9 : asS (if pb = true then s3.drop 2 else s3) = R9 at HCP
    have HPB := hid hpb
    have HR9 := hid hR9
    clear hpb hR9
    go_wp2_with (first
      | (refine store_fld rfl 9 _ _ rfl (w.heap.size + 1) 7 (.string (asS s3)) u3 { u3 with path := s3 } rfl rfl info9 (by omega) rfl rfl HR17.out rfl ?_)
      | fail)
    intro W18 hO hW
    have HR18 := hid hW
    have HB18 := hid (HB17.out.trans (hO.below (Nat.le_refl _)))
    have z18 : w.heap.size + 2 ≤ W18.heap.size := by rw [hO.size]; exact z17
    have HT18 := hid (tab_only HT17.out hO (by omega))
    clear hO hW HR17 HB17 HT17 z17
    go_wp2_with fail
    refine (HCP.out _).mono ?_
    rintro e W18 ⟨rfl, rfl⟩
    go_upto_if 62 with (fail)
    go_cut [] (fun wx => ∃ u5, w.heap.size + 2 ≤ wx.heap.size ∧ Hid (wx.heap[w.heap.size + 1]? = some (.cells (ucs u5) 26 (0, 0))) ∧ Hid (Below (w.heap.size + 1) W0 wx) ∧ Hid (TabS wx) ∧ Hid (AllOf l u5) ∧ Hid (PR = (u5, okC u5)))
    case first =>
      cases pb with
      | true =>
        rw [headC_yes s3 _ HPB.out] at HPC
        have h9 : R9 = asS (s3.drop 2) := HR9.out.symm
        clear HR9
        generalize hrr : s3.drop 2 = r at HPC h9
        subst h9
        have PR2 : Hid (PartOf l r) := P3.out.trans (hrr ▸ PartOf.drop s3 2)
        obtain ⟨au, gx, gy, h4⟩ : ∃ au gx gy, Lib.cut r [47] = (au, gx, gy) := ⟨_, _, _, rfl⟩
        have PA : Hid (PartOf l au) := PR2.out.trans (by have := (PartOf.cut 47 r).1; rw [h4] at this; exact this)
        have hau : au.length ≤ r.length := by have := (PartOf.cut 47 r).1.1; rw [h4] at this; exact this
        have hrl : r.length ≤ 100000 := Nat.le_trans PR2.out.1 HLL.out
        have HC4 : Hid (∀ W, TabS W → Calls Tryz.prog 66 #[.string (asS r), .string ⟨#[47]⟩] W fun e w' => e = .returned (.tuple #[.string (asS au), .string (asS gx), .bool gy]) ∧ Below W.heap.size W w') := fun W h => by have := cutc_any 47 r (by omega) W h; rw [h4] at this; exact this
        rw [h4] at HPC
        clear h4 hrr
        go_wp2_with fail
        refine (HC4.out _ HT18.out).mono ?_
        rintro e W19 ⟨rfl, hb⟩
        have HR19 := hid (row_keep hb HR18.out)
        have HB19 := hid (HB18.out.trans (hb.mono (by omega)))
        have z19 : w.heap.size + 2 ≤ W19.heap.size := Nat.le_trans z18 hb.size
        have HT19 := hid (HT18.out.below hb)
        clear hb HR18 HB18 HT18 z18
        have hE : (asS r).extract (asS au).size (asS r).size = asS (r.drop au.length) := by rw [asS_size au]; exact ext_from r au.length
        have hsz : ((asS au).size : Int) ≤ ((asS r).size : Int) := by rw [asS_size, asS_size]; omega
        have hsz2 : (asS r).size ≤ 100000 := by rw [asS_size]; exact hrl
        generalize hpath : r.drop au.length = pth at hE HPC
        have PP : Hid (PartOf l pth) := PR2.out.trans (hpath ▸ PartOf.drop r au.length)
        clear hpath
        have c6 := cellU HR19.out 6 _ rfl
        have f6 := frozen_of_row W19 _ 6 _ _ HR19.out
        have c7 := cellU HR19.out 7 _ rfl
        have f7 := frozen_of_row W19 _ 7 _ _ HR19.out
        go_wp2_with fail
        go_region
        generalize hWe : World.drew _ = W20
        have HR20 : Hid (W20.heap[w.heap.size + 1]? = some (.cells (ucs { u3 with hasAuth := true, path := pth }) 26 (0, 0))) := by rw [← hWe]; exact heap_setCell_same _ _ _ _ _ _ (heap_setCell_same _ _ _ _ _ _ HR19.out)
        have HB20 : Hid (Below (w.heap.size + 1) W0 W20) := by rw [← hWe]; exact ((HB19.out.setCell (Nat.le_refl _) _).setCell (Nat.le_refl _) _).drew
        have HT20 : Hid (TabS W20) := by rw [← hWe]; exact (tab_set (tab_set HT19.out (by omega)) (by omega)).below (below_drewN _ _ 1)
        have z20 : w.heap.size + 2 ≤ W20.heap.size := by rw [← hWe]; simp; exact z19
        clear hWe c6 f6 c7 f7 hE hsz hsz2 HR19 HB19 HT19 z19
        have HAU := hid (readAuth_any (w.heap.size + 1) { u3 with hasAuth := true, path := pth } au (by omega) W20 (by omega) HR20.out)
        generalize hu5 : authU au { u3 with hasAuth := true, path := pth } = u5 at HAU HPC
        have HALL : Hid (AllOf l u5) := by rw [← hu5]; exact AllOf.auth ⟨HAL.out.user, HAL.out.host, HAL.out.port, PP.out, HAL.out.query, HAL.out.frag⟩ PA.out
        have HU5 : Hid (PR = (u5, okC u5)) := HPC.out
        clear hu5 HPC
        go_wp2_with fail
        refine HAU.out.mono ?_
        rintro e W21 ⟨rfl, hrw, hb⟩
        have HR21 := hid hrw
        have HB21 := hid (HB20.out.trans hb)
        have z21 : w.heap.size + 2 ≤ W21.heap.size := Nat.le_trans z20 hb.size
        have HT21 := hid (tab_below1 HT20.out hb (by omega))
        clear hrw hb HR20 HB20 HT20 z20 HAU
        go_wp2_with fail
        go_meet
        case rel => exact ⟨u5, z21, HR21, HB21, HT21, HALL, HU5⟩
      | false =>
        rw [headC_not s3 _ HPB.out] at HPC
        go_wp2_with fail
        go_meet
        case rel => exact ⟨_, z18, HR18, HB18, HT18, ⟨HAL.out.user, HAL.out.host, HAL.out.port, P3.out, HAL.out.query, HAL.out.frag⟩, HPC⟩
    case rest =>
      clear HPC HR18 HB18 HT18 z18 HCP HAL P3 HPB HR9
      obtain ⟨u5, z28, HR28, HB28, HT28, HALL, HU5⟩ := hcut
      obtain ⟨W28, hV⟩ : ∃ V, V = wc := ⟨_, rfl⟩
      subst hV
      have hlen := HALL.out.user.1; have hlen2 := HALL.out.path.1; have hlen3 := HALL.out.query.1; have hlen4 := HALL.out.frag.1; have hlen5 := HALL.out.host.1; have hlen6 := HALL.out.port.1; have hL := HLL.out
      have HBK := hid (fun W => hasBracket_any (u5.user ++ u5.path ++ u5.query ++ u5.frag) (by simp; omega) (HALL.out.asc HA.out) W)
      have HCT := hid (fun W => has_one 35 u5.frag W)
      have HHO := hid (fun W h => isHost_any u5.host (by omega) (HALL.out.host.asc HA.out) W h)
      have HDG : Hid (∀ W, Calls Tryz.prog 94 #[.string ⟨#[48, 49, 50, 51, 52, 53, 54, 55, 56, 57]⟩, .string (asS u5.port)] W fun e w' => e = .returned (.bool (u5.port.all digitU)) ∧ w' = W) := fun W => digits_any (asS u5.port) (by rw [asS_size]; omega) W
      have HOK : Hid (PR = (u5, !(Lib.containsAny (u5.user ++ u5.path ++ u5.query ++ u5.frag) [91, 93]) && !(decide (0 ≤ Lib.indexByte u5.frag 35)) && hostU u5.host && u5.port.all digitU)) := HU5.out
      have c1 := cellU HR28.out 1 (.string (asS u5.user)) rfl
      have c7 := cellU HR28.out 7 (.string (asS u5.path)) rfl
      have c8 := cellU HR28.out 8 (.string (asS u5.query)) rfl
      have c10 := cellU HR28.out 10 (.string (asS u5.frag)) rfl
      have e1 := asS_app u5.user u5.path
      have e2 := asS_app (u5.user ++ u5.path) u5.query
      have e3 := asS_app (u5.user ++ u5.path ++ u5.query) u5.frag
      have k1 : ¬ (9223372036854775807 < (asS u5.user).size + (asS u5.path).size) := by rw [asS_size, asS_size]; omega
      have k2 : ¬ (9223372036854775807 < (asS (u5.user ++ u5.path)).size + (asS u5.query).size) := by rw [asS_size, asS_size]; simp; omega
      have k3 : ¬ (9223372036854775807 < (asS (u5.user ++ u5.path ++ u5.query)).size + (asS u5.frag).size) := by rw [asS_size, asS_size]; simp; omega
      generalize Lib.containsAny (u5.user ++ u5.path ++ u5.query ++ u5.frag) [91, 93] = b1 at HBK HOK
      generalize decide (0 ≤ Lib.indexByte u5.frag 35) = b2 at HCT HOK
      generalize hostU u5.host = b3 at HHO HOK
      generalize u5.port.all digitU = b4 at HDG HOK
      generalize asS (u5.user ++ u5.path ++ u5.query ++ u5.frag) = Y4 at HBK e3
      generalize asS (u5.user ++ u5.path ++ u5.query) = Y3 at e2 e3 k3
      generalize asS (u5.user ++ u5.path) = Y2 at e1 e2 k2
      generalize asS u5.user = X1 at c1 e1 k1
      generalize asS u5.path = X2 at c7 e1 k1
      generalize asS u5.query = X3 at c8 e2 k2
      generalize hX4 : asS u5.frag = X4 at c10 e3 k3 HCT
      have HX4 : Hid ((ucs u5)[10]? = some (.string X4)) := by rw [← hX4]; rfl
      clear hlen hlen2 hlen3 hlen4 hlen5 hlen6 hL HU5 hX4
      go_wp2_with fail
      refine (HBK.out _).mono ?_
      rintro e W29 ⟨rfl, hb⟩
      have HR29 := hid (row_keep hb HR28.out)
      have HB29 := hid (HB28.out.trans (hb.mono (by omega)))
      have z29 : w.heap.size + 2 ≤ W29.heap.size := Nat.le_trans z28 hb.size
      have HT29 := hid (HT28.out.below hb)
      clear hb HR28 HB28 HT28 z28
      clear c1 c7 c8 c10 e1 e2 e3 k1 k2 k3
      have HLT : Hid (∀ W, Below W29.heap.size W29 W → (loadI 26 (.pointer (some ⟨w.heap.size + 1, 0, none⟩))).run Tryz.prog W = .ok (.agg (ucs u5)) W) := fun W h => loadU_row (row_keep h HR29.out)
      have HSR : Hid (W29.heap[w.heap.size]? = some (.cells CZ 26 (0, 0))) := (HB29.out.block _ (by omega)).trans HCZ.out
      have HST : Hid (∀ W, Below W29.heap.size W29 W → (storeI 26 (.pointer (some ⟨w.heap.size, 0, none⟩)) (.agg (ucs u5))).run Tryz.prog W = .ok () (putU W w.heap.size u5)) := fun W h => storeU_row (row_keep h HSR.out) HZS.out
      have HEND : Hid (∀ W, Below W29.heap.size W29 W → (putU W w.heap.size u5).heap[w.heap.size]? = some (.cells (ucs u5) 26 (0, 0)) ∧ Below w.heap.size w (putU W w.heap.size u5)) := fun W h => ⟨putU_row (row_keep h HSR.out) HZS.out, (HBW.out.trans ((HB29.out.mono (by omega)).trans (h.mono (by omega)))).trans ((putU_only W w.heap.size u5).below (Nat.le_refl _))⟩
      have c3 := cellU HR29.out 3 (.string (asS u5.host)) rfl
      have c4 := cellU HR29.out 4 (.string (asS u5.port)) rfl
      have c10 := cellU HR29.out 10 (.string X4) HX4.out
      have ld := HLT.out W29.drew (below_drewN _ _ 1)
      have st := HST.out W29.drew (below_drewN _ _ 1)
      have HTd : Hid (TabS W29.drew) := HT29.out.below (below_drewN _ _ 1)
      have HC4 : Hid (∀ W, Below W29.heap.size W29 W → W.cell? ⟨w.heap.size + 1, 4, none⟩ = some (.string (asS u5.port))) := fun W h => cellU (row_keep h HR29.out) 4 (.string (asS u5.port)) rfl
      cases b1 with
      | true =>
        go_wp2_with fail
        go_region
        go_wp2
        refine bodyPost_ret (ret_url2 (p := 2) (q := 3) Tryz.results65 _ _ w.heap.size u5 (0, 0) _ rfl rfl (HEND.out _ (below_drewN _ _ 1)).1) rfl ⟨?_, (HEND.out _ (below_drewN _ _ 1)).2⟩
        rw [HOK.out]; rfl
      | false =>
        go_wp2_with fail
        refine (HCT.out _).mono ?_
        rintro e W29 ⟨rfl, rfl⟩
        cases b2 with
        | true =>
          go_wp2_with fail
          go_region
          go_wp2
          refine bodyPost_ret (ret_url2 (p := 2) (q := 3) Tryz.results65 _ _ w.heap.size u5 (0, 0) _ rfl rfl (HEND.out _ (below_drewN _ _ 1)).1) rfl ⟨?_, (HEND.out _ (below_drewN _ _ 1)).2⟩
          rw [HOK.out]; rfl
        | false =>
          cases b3 with
          | true =>
            go_wp2_with fail
            first
              | (go_region_with ((first
                | (go_at_call 93; refine (HHO.out _ HTd.out).mono ?_; rintro e w1 ⟨rfl, hb1⟩; have HB1 := hid (drew_below7 hb1); have ld1 := HLT.out w1 HB1.out; have st1 := HST.out w1 HB1.out; have c41 := HC4.out w1 HB1.out; clear hb1)
                | (go_at_call 94; refine (HDG.out _).mono ?_; rintro e w2 ⟨rfl, rfl⟩))))
              | fail
            all_goals
              go_wp2
              refine bodyPost_ret (ret_url2 (p := 2) (q := 3) Tryz.results65 _ _ w.heap.size u5 (0, 0) _ rfl rfl (HEND.out _ HB1.out).1) rfl ⟨?_, (HEND.out _ HB1.out).2⟩
              rw [HOK.out]; rfl
          | false =>
            go_wp2_with fail
            first
              | (go_region_with ((first
                | (go_at_call 93; refine (HHO.out _ HTd.out).mono ?_; rintro e w1 ⟨rfl, hb1⟩; have HB1 := hid (drew_below7 hb1); have ld1 := HLT.out w1 HB1.out; have st1 := HST.out w1 HB1.out; have c41 := HC4.out w1 HB1.out; clear hb1)
                | (go_at_call 94; refine (HDG.out _).mono ?_; rintro e w2 ⟨rfl, rfl⟩))))
              | fail
            all_goals
              go_wp2
              refine bodyPost_ret (ret_url2 (p := 2) (q := 3) Tryz.results65 _ _ w.heap.size u5 (0, 0) _ rfl rfl (HEND.out _ HB1.out).1) rfl ⟨?_, (HEND.out _ HB1.out).2⟩
              rw [HOK.out]; rfl
end Go.Proofs.YtlblefcmilfjdaaGreatDoor
