
/- What url.together does: the closure, and the parts put one behind the other. -/
import Derived.Test.YtlblefcmilfjdaaGreatDoorUrBld
import Derived.Shelf.Strings.BuilderK
namespace Go.Proofs.YtlblefcmilfjdaaGreatDoor
set_option linter.unusedVariables false
set_option linter.unusedSimpArgs false
open Go.RowKit Go.BigFrame

theorem ownF_keep {B : Nat} {e : TypeId} {v : Value} {n : Nat} {xs : List Value} {w w' : World} (h : w.ownsRowF B e 1 v n xs) (hb : Below w.heap.size w w') : w'.ownsRowF B e 1 v n xs := by
  obtain ⟨hl, ho⟩ := h
  refine ⟨hl, ?_⟩
  rcases ho with ho | ⟨g, c, cur, fz, h1, h2, h3, h4⟩
  · exact .inl ho
  · exact .inr ⟨g, c, cur, fz, h1, h2, row_keep hb h3, h4⟩
/-- A builder that holds these bytes, whatever of its row was handed out. -/
def Bk (B b : Nat) (o : List UInt8) (w : World) : Prop := Lib.IsBuilderF 62 5 B b (Lib.byteCells o) w
theorem Bk.below {B b : Nat} {o : List UInt8} {w w' : World} (h : Bk B b o w) (hb : Below w.heap.size w w') : Bk B b o w' := by
  rcases h with ⟨h1, v, h2, h3, h4⟩ | ⟨h1, v, h2, h3, h4⟩
  · exact .inl ⟨h1, v, row_keep hb h2, ownF_keep h3 hb, h4⟩
  · exact .inr ⟨h1, v, row_keep hb h2, ownF_keep h3 hb, h4⟩
theorem Bk.of {B b : Nat} {o : List UInt8} {w : World} (h : Bd B b o w) : Bk B b o w := by
  rcases h with h | h
  · exact .inl (Lib.BuilderAtF.of h)
  · exact .inr (Lib.BuilderAtF.of h)
theorem Bk.lt {B b : Nat} {o : List UInt8} {w : World} (h : Bk B b o w) : b < w.heap.size := by
  rcases h with ⟨h1, v, h2, h3, h4⟩ | ⟨h1, v, h2, h3, h4⟩ <;> exact row_lt h2
theorem Bk.ge {B b : Nat} {o : List UInt8} {w : World} (h : Bk B b o w) : B ≤ b := by
  rcases h with h | h <;> exact h.1
theorem writeStr_k (B b : Nat) (o : List UInt8) (x : List UInt8) (w : World) (h : Bk B b o w) (hl : o.length + x.length ≤ 1000000) (hB : B ≤ w.heap.size) : Calls Tryz.prog 46 #[.pointer (some ⟨b, 0, none⟩), .string (asS x)] w fun e w' => (∃ v, e = .returned v) ∧ Bk B b (o ++ x) w' ∧ Below B w w' ∧ Lib.OthersKept 5 (some b) w w' := by
  have h2 : Lib.IsBuilderF (Tryz.lays158_ren.t 72) (Tryz.lays158_ren.t 5) B b (Lib.byteCells o) w := h
  refine (Any.Builder_WriteString_k (P := Tryz.prog) (ρ := Tryz.lays158_ren) { Tryz.lays158 with } Tryz.Builder_Extra_158 B b (Lib.byteCells o) (asS x) w h2 (by rw [Lib.byteCells_length, asS_size]; omega) hB).mono ?_
  rintro e w' ⟨rfl, hb, hbel, hk⟩
  refine ⟨⟨_, rfl⟩, .inr ?_, hbel, hk⟩
  rw [cells_app]
  exact hb
theorem bstr_k (B b : Nat) (o : List UInt8) (w : World) (h : Bk B b o w) (hB : B ≤ w.heap.size) : Calls Tryz.prog 48 #[.pointer (some ⟨b, 0, none⟩)] w fun e w' => e = .returned (.string (asS o)) ∧ Below B w w' := by
  have h2 : Lib.IsBuilderF (Tryz.lays169_ren.t 72) (Tryz.lays169_ren.t 5) B b (Lib.byteCells o) w := h
  refine (Any.Builder_String_any_k (P := Tryz.prog) (ρ := Tryz.lays169_ren) Tryz.lays169 Tryz.Builder_Extra_169 B b o w h2 hB).mono ?_
  rintro e w' ⟨rfl, _, hb, _⟩
  exact ⟨rfl, hb⟩
theorem strs_at (xs : List (List UInt8)) (k : Nat) (h : k < xs.length) : (strs xs).toArray[k]? = some (.string (asS (xs.getD k []))) := by
  rw [List.getElem?_toArray]
  unfold strs
  rw [List.getElem?_map, List.getElem?_eq_getElem h, List.getD_eq_getElem?_getD, List.getElem?_eq_getElem h]
  rfl
theorem flat_snoc (xs : List (List UInt8)) (k : Nat) (h : k < xs.length) : (xs.take (k + 1)).flatten = (xs.take k).flatten ++ xs.getD k [] := by
  rw [List.take_succ_eq_append_getElem h, List.flatten_append, List.getD_eq_getElem?_getD, List.getElem?_eq_getElem h]
  simp
theorem flat_le (xs : List (List UInt8)) (k : Nat) : (xs.take k).flatten.length ≤ xs.flatten.length := by
  conv => rhs; rw [← List.take_append_drop k xs, List.flatten_append, List.length_append]
  omega
theorem results_none {P : Program} {fn : Func} (h : fn.results = #[]) (tmps : Array Value) (w : World) : (results fn tmps).run P w = .ok (.tuple #[]) w := by simp [results, h]
set_option maxHeartbeats 4000000 in
theorem put_any (has : Bool) (xs : List (List UInt8)) (hx : xs.length ≤ 100) (B b g : Nat) (o : List UInt8) (w : World) (hl : o.length + xs.flatten.length ≤ 1000000) (hB : B ≤ w.heap.size) (h : Bk B b o w) (hg : w.heap[g]? = some (.cells (strs xs).toArray 9 (0, 0))) (hgb : g ≠ b) :
    Calls Tryz.prog 86 #[.bool has, .slice (some ⟨g, 0, none⟩) xs.length xs.length, .pointer (some ⟨b, 0, none⟩)] w fun e w' => e = .returned (.tuple #[]) ∧ Bk B b (o ++ if has then xs.flatten else []) w' ∧ Below B w w' := by
  cases has with
  | false =>
    have HD := hid h
    clear hg h
    go_enter Tryz.func86, Tryz.ntmps86
    go_wp2_with fail
    refine bodyPost_ret (results_none (fn := Tryz.f86) rfl _ _) rfl ⟨rfl, by simpa using HD.out, Below.refl _ _⟩
  | true =>
    have HWS := hid writeStr_k
    have HG := hid hg
    have HD0 : Hid (Bk B b (o ++ (xs.take 0).flatten) w) := by show Bk _ _ _ _; simpa using h
    have HSA := hid (strs_at xs)
    have HFS := hid (flat_snoc xs)
    have HFL := hid (flat_le xs)
    have HFE : Hid (∀ k, xs.length ≤ k → (xs.take k).flatten = xs.flatten) := fun k hk => by rw [List.take_of_length_le hk]
    have HGB := hid hgb
    have HLL := hid hl
    clear hg h hgb hl
    go_enter Tryz.func86, Tryz.ntmps86
    go_wp2_with fail
    go_loopw [11] (fun i wr => ∃ k : Nat, k ≤ xs.length ∧ i = .int .i64 (k : Int) ∧ Hid (Bk B b (o ++ (xs.take k).flatten) wr) ∧ Hid (wr.heap[g]? = some (.cells (strs xs).toArray 9 (0, 0))) ∧ Hid (Below B w wr)) (fun i _ => xs.length - (intOf i).toNat)
    case atStart => exact ⟨0, Nat.zero_le _, rfl, HD0, HG, Below.refl _ _⟩
    case round =>
      obtain ⟨k, hk, rfl, HD, HR, HB⟩ := hrel
      by_cases hlt : k < xs.length
      · have hi : (k : Int) < (xs.length : Int) := by omega
        have hc : wr.cell? ⟨g, k, none⟩ = some (.string (asS (xs.getD k []))) := by rw [cell_of_row _ _ _ _ _ _ HR.out]; exact HSA.out k hlt
        have hfs := HFS.out k hlt
        have hfl := HFL.out (k + 1)
        have hll := HLL.out
        rw [hfs, List.length_append] at hfl
        generalize xs.getD k [] = x at hc hfs hfl
        have HF := hid hfs
        have hzz : B ≤ wr.heap.size := Nat.le_trans hB HB.out.size
        have hlen : (o ++ (xs.take k).flatten).length + x.length ≤ 1000000 := by rw [List.length_append]; omega
        have HLN := hid hlen
        clear hfs hfl hll hlen
        go_wp2_with fail
        refine (HWS.out B b (o ++ (xs.take k).flatten) x _ HD.out HLN.out hzz).mono ?_
        rintro e W1 ⟨⟨v, rfl⟩, hd1, hb1, hk1⟩
        have HD1 : Hid (Bk B b (o ++ (xs.take (k + 1)).flatten) W1) := by show Bk _ _ _ _; rw [HF.out, ← List.append_assoc]; exact hd1
        have HB1 := hid (HB.out.trans hb1)
        have HR1 := hid (hk1 g _ HR.out (fun e => HGB.out (Option.some.inj e)) (fun c fz e => by injection e with _ e2; cases e2))
        clear hd1 hb1 hk1 hc
        go_wp2_with fail
        go_roundw
        case rel => exact ⟨k + 1, by omega, by go_num, HD1, HR1, HB1⟩
        case measure => simp [intOf]; omega
      · have hi : ¬ (k : Int) < (xs.length : Int) := by omega
        have HD1 : Hid (Bk B b (o ++ xs.flatten) wr) := by show Bk _ _ _ _; rw [← HFE.out k (by omega)]; exact HD.out
        go_wp2_with fail
        go_end0
        exact ⟨rfl, HD1.out, HB.out⟩

theorem put_new (has : Bool) (xs : List (List UInt8)) (hx : xs.length ≤ 100) (B b : Nat) (o : List UInt8) (W : World) (hl : o.length + xs.flatten.length ≤ 1000000) (hB : B ≤ W.heap.size) (h : Bk B b o W) :
    Calls Tryz.prog 86 #[.bool has, .slice (some ⟨W.heap.size, 0, none⟩) xs.length xs.length, .pointer (some ⟨b, 0, none⟩)] (W.alloc (.cells (strs xs).toArray 9)) fun e w' => e = .returned (.tuple #[]) ∧ Bk B b (o ++ if has then xs.flatten else []) w' ∧ Below B W w' := by
  have hb : Below W.heap.size W (W.alloc (.cells (strs xs).toArray 9)) := alloc_below (Below.refl _ W) (Nat.le_refl _) _
  refine (put_any has xs hx B b W.heap.size o _ hl (Nat.le_trans hB hb.size) (h.below hb) (heap_alloc_new W _) (by have := h.lt; omega)).mono ?_
  rintro e w' ⟨rfl, hd, hb2⟩
  exact ⟨rfl, hd, (hb.mono hB).trans hb2⟩
structure LenU (n : Nat) (u : UrlV) : Prop where
  scheme : u.scheme.length ≤ n
  user : u.user.length ≤ n
  host : u.host.length ≤ n
  port : u.port.length ≤ n
  path : u.path.length ≤ n
  query : u.query.length ≤ n
  frag : u.frag.length ≤ n
theorem empty_dec (a : List UInt8) : (asS a).toList.isEmpty = decide (a = []) := by
  rw [show (asS a).toList = a from by rw [ByteArray.toList_eq]; rfl]
  cases a <;> rfl
set_option maxHeartbeats 8000000 in
set_option maxRecDepth 100000 in
theorem together_any (u : UrlV) (hu : LenU 100000 u) (w : World) : Calls Tryz.prog 63 #[.agg (ucs u)] w fun e w' => e = .returned (.string (asS (joinU u))) ∧ Below w.heap.size w w' := by
  have HP0 : Hid (∀ (o : List UInt8) (W : World), o.length ≤ 790000 → w.heap.size + 1 ≤ W.heap.size → Bk (w.heap.size + 1) (w.heap.size + 1) o W → Calls Tryz.prog 86 #[.bool (!(asS u.scheme).toList.isEmpty), .slice (some ⟨W.heap.size, 0, none⟩) 2 2, .pointer (some ⟨w.heap.size + 1, 0, none⟩)] (W.alloc (.cells #[.string (asS u.scheme), .string ⟨#[58]⟩] 9)) fun e w' => e = .returned (.tuple #[]) ∧ Bk (w.heap.size + 1) (w.heap.size + 1) (o ++ (if (!(asS u.scheme).toList.isEmpty) = true then u.scheme ++ [58] else [])) w' ∧ Below (w.heap.size + 1) W w') := fun o W ho hz h => by
    have := put_new (!(asS u.scheme).toList.isEmpty) [u.scheme, [58]] (by simp) (w.heap.size + 1) (w.heap.size + 1) o W (by have h1 := hu.scheme; have h2 := hu.user; have h3 := hu.host; have h4 := hu.port; have h5 := hu.path; have h6 := hu.query; have h7 := hu.frag; simp; omega) hz h
    rw [show ([u.scheme, [58]] : List (List UInt8)).flatten = u.scheme ++ [58] from by simp] at this
    exact this
  have HP1 : Hid (∀ (o : List UInt8) (W : World), o.length ≤ 790000 → w.heap.size + 1 ≤ W.heap.size → Bk (w.heap.size + 1) (w.heap.size + 1) o W → Calls Tryz.prog 86 #[.bool u.hasAuth, .slice (some ⟨W.heap.size, 0, none⟩) 1 1, .pointer (some ⟨w.heap.size + 1, 0, none⟩)] (W.alloc (.cells #[.string ⟨#[47, 47]⟩] 9)) fun e w' => e = .returned (.tuple #[]) ∧ Bk (w.heap.size + 1) (w.heap.size + 1) (o ++ (if u.hasAuth = true then [47, 47] else [])) w' ∧ Below (w.heap.size + 1) W w') := fun o W ho hz h => by
    have := put_new u.hasAuth [[47, 47]] (by simp) (w.heap.size + 1) (w.heap.size + 1) o W (by have h1 := hu.scheme; have h2 := hu.user; have h3 := hu.host; have h4 := hu.port; have h5 := hu.path; have h6 := hu.query; have h7 := hu.frag; simp; omega) hz h
    rw [show ([[47, 47]] : List (List UInt8)).flatten = [47, 47] from by simp] at this
    exact this
  have HP2 : Hid (∀ (o : List UInt8) (W : World), o.length ≤ 790000 → w.heap.size + 1 ≤ W.heap.size → Bk (w.heap.size + 1) (w.heap.size + 1) o W → Calls Tryz.prog 86 #[.bool u.hasUser, .slice (some ⟨W.heap.size, 0, none⟩) 2 2, .pointer (some ⟨w.heap.size + 1, 0, none⟩)] (W.alloc (.cells #[.string (asS u.user), .string ⟨#[64]⟩] 9)) fun e w' => e = .returned (.tuple #[]) ∧ Bk (w.heap.size + 1) (w.heap.size + 1) (o ++ (if u.hasUser = true then u.user ++ [64] else [])) w' ∧ Below (w.heap.size + 1) W w') := fun o W ho hz h => by
    have := put_new u.hasUser [u.user, [64]] (by simp) (w.heap.size + 1) (w.heap.size + 1) o W (by have h1 := hu.scheme; have h2 := hu.user; have h3 := hu.host; have h4 := hu.port; have h5 := hu.path; have h6 := hu.query; have h7 := hu.frag; simp; omega) hz h
    rw [show ([u.user, [64]] : List (List UInt8)).flatten = u.user ++ [64] from by simp] at this
    exact this
  have HP3 : Hid (∀ (o : List UInt8) (W : World), o.length ≤ 790000 → w.heap.size + 1 ≤ W.heap.size → Bk (w.heap.size + 1) (w.heap.size + 1) o W → Calls Tryz.prog 86 #[.bool true, .slice (some ⟨W.heap.size, 0, none⟩) 1 1, .pointer (some ⟨w.heap.size + 1, 0, none⟩)] (W.alloc (.cells #[.string (asS u.host)] 9)) fun e w' => e = .returned (.tuple #[]) ∧ Bk (w.heap.size + 1) (w.heap.size + 1) (o ++ u.host) w' ∧ Below (w.heap.size + 1) W w') := fun o W ho hz h => by
    have := put_new true [u.host] (by simp) (w.heap.size + 1) (w.heap.size + 1) o W (by have h1 := hu.scheme; have h2 := hu.user; have h3 := hu.host; have h4 := hu.port; have h5 := hu.path; have h6 := hu.query; have h7 := hu.frag; simp; omega) hz h
    rw [show ([u.host] : List (List UInt8)).flatten = u.host from by simp] at this
    exact this
  have HP4 : Hid (∀ (o : List UInt8) (W : World), o.length ≤ 790000 → w.heap.size + 1 ≤ W.heap.size → Bk (w.heap.size + 1) (w.heap.size + 1) o W → Calls Tryz.prog 86 #[.bool u.hasPort, .slice (some ⟨W.heap.size, 0, none⟩) 2 2, .pointer (some ⟨w.heap.size + 1, 0, none⟩)] (W.alloc (.cells #[.string ⟨#[58]⟩, .string (asS u.port)] 9)) fun e w' => e = .returned (.tuple #[]) ∧ Bk (w.heap.size + 1) (w.heap.size + 1) (o ++ (if u.hasPort = true then [58] ++ u.port else [])) w' ∧ Below (w.heap.size + 1) W w') := fun o W ho hz h => by
    have := put_new u.hasPort [[58], u.port] (by simp) (w.heap.size + 1) (w.heap.size + 1) o W (by have h1 := hu.scheme; have h2 := hu.user; have h3 := hu.host; have h4 := hu.port; have h5 := hu.path; have h6 := hu.query; have h7 := hu.frag; simp; omega) hz h
    rw [show ([[58], u.port] : List (List UInt8)).flatten = [58] ++ u.port from by simp] at this
    exact this
  have HP5 : Hid (∀ (o : List UInt8) (W : World), o.length ≤ 790000 → w.heap.size + 1 ≤ W.heap.size → Bk (w.heap.size + 1) (w.heap.size + 1) o W → Calls Tryz.prog 86 #[.bool true, .slice (some ⟨W.heap.size, 0, none⟩) 1 1, .pointer (some ⟨w.heap.size + 1, 0, none⟩)] (W.alloc (.cells #[.string (asS u.path)] 9)) fun e w' => e = .returned (.tuple #[]) ∧ Bk (w.heap.size + 1) (w.heap.size + 1) (o ++ u.path) w' ∧ Below (w.heap.size + 1) W w') := fun o W ho hz h => by
    have := put_new true [u.path] (by simp) (w.heap.size + 1) (w.heap.size + 1) o W (by have h1 := hu.scheme; have h2 := hu.user; have h3 := hu.host; have h4 := hu.port; have h5 := hu.path; have h6 := hu.query; have h7 := hu.frag; simp; omega) hz h
    rw [show ([u.path] : List (List UInt8)).flatten = u.path from by simp] at this
    exact this
  have HP6 : Hid (∀ (o : List UInt8) (W : World), o.length ≤ 790000 → w.heap.size + 1 ≤ W.heap.size → Bk (w.heap.size + 1) (w.heap.size + 1) o W → Calls Tryz.prog 86 #[.bool u.hasQuery, .slice (some ⟨W.heap.size, 0, none⟩) 2 2, .pointer (some ⟨w.heap.size + 1, 0, none⟩)] (W.alloc (.cells #[.string ⟨#[63]⟩, .string (asS u.query)] 9)) fun e w' => e = .returned (.tuple #[]) ∧ Bk (w.heap.size + 1) (w.heap.size + 1) (o ++ (if u.hasQuery = true then [63] ++ u.query else [])) w' ∧ Below (w.heap.size + 1) W w') := fun o W ho hz h => by
    have := put_new u.hasQuery [[63], u.query] (by simp) (w.heap.size + 1) (w.heap.size + 1) o W (by have h1 := hu.scheme; have h2 := hu.user; have h3 := hu.host; have h4 := hu.port; have h5 := hu.path; have h6 := hu.query; have h7 := hu.frag; simp; omega) hz h
    rw [show ([[63], u.query] : List (List UInt8)).flatten = [63] ++ u.query from by simp] at this
    exact this
  have HP7 : Hid (∀ (o : List UInt8) (W : World), o.length ≤ 790000 → w.heap.size + 1 ≤ W.heap.size → Bk (w.heap.size + 1) (w.heap.size + 1) o W → Calls Tryz.prog 86 #[.bool u.hasFrag, .slice (some ⟨W.heap.size, 0, none⟩) 2 2, .pointer (some ⟨w.heap.size + 1, 0, none⟩)] (W.alloc (.cells #[.string ⟨#[35]⟩, .string (asS u.frag)] 9)) fun e w' => e = .returned (.tuple #[]) ∧ Bk (w.heap.size + 1) (w.heap.size + 1) (o ++ (if u.hasFrag = true then [35] ++ u.frag else [])) w' ∧ Below (w.heap.size + 1) W w') := fun o W ho hz h => by
    have := put_new u.hasFrag [[35], u.frag] (by simp) (w.heap.size + 1) (w.heap.size + 1) o W (by have h1 := hu.scheme; have h2 := hu.user; have h3 := hu.host; have h4 := hu.port; have h5 := hu.path; have h6 := hu.query; have h7 := hu.frag; simp; omega) hz h
    rw [show ([[35], u.frag] : List (List UInt8)).flatten = [35] ++ u.frag from by simp] at this
    exact this
  have hj : joinU u = [] ++ (if (!(asS u.scheme).toList.isEmpty) = true then u.scheme ++ [58] else []) ++ (if u.hasAuth = true then [47, 47] else []) ++ (if u.hasUser = true then u.user ++ [64] else []) ++ u.host ++ (if u.hasPort = true then [58] ++ u.port else []) ++ u.path ++ (if u.hasQuery = true then [63] ++ u.query else []) ++ (if u.hasFrag = true then [35] ++ u.frag else []) := by
    unfold joinU
    rw [empty_dec]
    by_cases h0 : u.scheme = []
    · simp [h0]
    · simp [h0]
  have HJ := hid hj
  have HLN : Hid (LenU 100000 u) := hu
  clear hj hu
  generalize joinU u = J at HJ ⊢
  go_enter Tryz.func63, Tryz.ntmps63
  go_wp2_with (first
    | (refine wpList_built rfl 62 _ rfl #[.pointer none, .slice none 0 0] built_bld ?_)
    | (refine store_bld rfl _ _ rfl (w.heap.size + 1) rfl rfl _ (heap_second w _ _) rfl ?_)
    | fail)
  intro W0 hO hW
  have HRW : Hid (W0.heap[w.heap.size]? = some (.cells (ucs u) 26 (0, 0))) := (hO.block _ (by omega)).trans (heap_first w _ _)
  have HD0 : Hid (Bk (w.heap.size + 1) (w.heap.size + 1) [] W0) := Bk.of (Bd.row (Nat.le_refl _) hW)
  have z0 : w.heap.size + 1 ≤ W0.heap.size := by rw [hO.size]; simp
  have HBW : Hid (Below w.heap.size w W0) := (alloc_below (alloc_below (Below.refl _ w) (Nat.le_refl _) _) (by simp) _).trans (hO.below (by omega))
  have HB0 : Hid (Below (w.heap.size + 1) W0 W0) := Below.refl _ _
  have hl0 : ([] : List UInt8).length ≤ 0 := Nat.le_refl _
  generalize ho0 : ([] : List UInt8) = o0 at HD0 hl0
  have HO0 := hid ho0
  clear hO hW ho0
  have c0 := cellU ((HB0.out.block _ (by omega)).trans HRW.out) 0 (.string (asS u.scheme)) rfl
  go_wp2_with fail
  refine (HP0.out o0 _ (by omega) z0 HD0.out).mono ?_
  rintro e W1 ⟨rfl, hd, hb⟩
  have HB1 := hid (HB0.out.trans hb)
  have z1 : w.heap.size + 1 ≤ W1.heap.size := Nat.le_trans z0 hb.size
  generalize ho1 : o0 ++ (if (!(asS u.scheme).toList.isEmpty) = true then u.scheme ++ [58] else []) = o1 at hd
  have hl1 : o1.length ≤ 100002 := by
    have h1 := HLN.out.scheme; have h2 := HLN.out.user; have h3 := HLN.out.host; have h4 := HLN.out.port; have h5 := HLN.out.path; have h6 := HLN.out.query; have h7 := HLN.out.frag
    rw [← ho1, List.length_append]
    split <;> simp <;> omega
  have HO1 := hid ho1
  have HD1 := hid hd
  clear hd hb ho1 HD0 hl0 z0 HP0 c0
  have c6 := cellU ((HB1.out.block _ (by omega)).trans HRW.out) 6 (.bool u.hasAuth) rfl
  go_wp2_with fail
  refine (HP1.out o1 _ (by omega) z1 HD1.out).mono ?_
  rintro e W2 ⟨rfl, hd, hb⟩
  have HB2 := hid (HB1.out.trans hb)
  have z2 : w.heap.size + 1 ≤ W2.heap.size := Nat.le_trans z1 hb.size
  generalize ho2 : o1 ++ (if u.hasAuth = true then [47, 47] else []) = o2 at hd
  have hl2 : o2.length ≤ 200004 := by
    have h1 := HLN.out.scheme; have h2 := HLN.out.user; have h3 := HLN.out.host; have h4 := HLN.out.port; have h5 := HLN.out.path; have h6 := HLN.out.query; have h7 := HLN.out.frag
    rw [← ho2, List.length_append]
    split <;> simp <;> omega
  have HO2 := hid ho2
  have HD2 := hid hd
  clear hd hb ho2 HD1 hl1 z1 HP1 c6
  have c2 := cellU ((HB2.out.block _ (by omega)).trans HRW.out) 2 (.bool u.hasUser) rfl
  have c1 := cellU ((HB2.out.block _ (by omega)).trans HRW.out) 1 (.string (asS u.user)) rfl
  go_wp2_with fail
  refine (HP2.out o2 _ (by omega) z2 HD2.out).mono ?_
  rintro e W3 ⟨rfl, hd, hb⟩
  have HB3 := hid (HB2.out.trans hb)
  have z3 : w.heap.size + 1 ≤ W3.heap.size := Nat.le_trans z2 hb.size
  generalize ho3 : o2 ++ (if u.hasUser = true then u.user ++ [64] else []) = o3 at hd
  have hl3 : o3.length ≤ 300006 := by
    have h1 := HLN.out.scheme; have h2 := HLN.out.user; have h3 := HLN.out.host; have h4 := HLN.out.port; have h5 := HLN.out.path; have h6 := HLN.out.query; have h7 := HLN.out.frag
    rw [← ho3, List.length_append]
    split <;> simp <;> omega
  have HO3 := hid ho3
  have HD3 := hid hd
  clear hd hb ho3 HD2 hl2 z2 HP2 c2 c1
  have c3 := cellU ((HB3.out.block _ (by omega)).trans HRW.out) 3 (.string (asS u.host)) rfl
  go_wp2_with fail
  refine (HP3.out o3 _ (by omega) z3 HD3.out).mono ?_
  rintro e W4 ⟨rfl, hd, hb⟩
  have HB4 := hid (HB3.out.trans hb)
  have z4 : w.heap.size + 1 ≤ W4.heap.size := Nat.le_trans z3 hb.size
  generalize ho4 : o3 ++ u.host = o4 at hd
  have hl4 : o4.length ≤ 400008 := by
    have h1 := HLN.out.scheme; have h2 := HLN.out.user; have h3 := HLN.out.host; have h4 := HLN.out.port; have h5 := HLN.out.path; have h6 := HLN.out.query; have h7 := HLN.out.frag
    rw [← ho4, List.length_append]
    omega
  have HO4 := hid ho4
  have HD4 := hid hd
  clear hd hb ho4 HD3 hl3 z3 HP3 c3
  have c5 := cellU ((HB4.out.block _ (by omega)).trans HRW.out) 5 (.bool u.hasPort) rfl
  have c4 := cellU ((HB4.out.block _ (by omega)).trans HRW.out) 4 (.string (asS u.port)) rfl
  go_wp2_with fail
  refine (HP4.out o4 _ (by omega) z4 HD4.out).mono ?_
  rintro e W5 ⟨rfl, hd, hb⟩
  have HB5 := hid (HB4.out.trans hb)
  have z5 : w.heap.size + 1 ≤ W5.heap.size := Nat.le_trans z4 hb.size
  generalize ho5 : o4 ++ (if u.hasPort = true then [58] ++ u.port else []) = o5 at hd
  have hl5 : o5.length ≤ 500010 := by
    have h1 := HLN.out.scheme; have h2 := HLN.out.user; have h3 := HLN.out.host; have h4 := HLN.out.port; have h5 := HLN.out.path; have h6 := HLN.out.query; have h7 := HLN.out.frag
    rw [← ho5, List.length_append]
    split <;> simp <;> omega
  have HO5 := hid ho5
  have HD5 := hid hd
  clear hd hb ho5 HD4 hl4 z4 HP4 c5 c4
  have c7 := cellU ((HB5.out.block _ (by omega)).trans HRW.out) 7 (.string (asS u.path)) rfl
  go_wp2_with fail
  refine (HP5.out o5 _ (by omega) z5 HD5.out).mono ?_
  rintro e W6 ⟨rfl, hd, hb⟩
  have HB6 := hid (HB5.out.trans hb)
  have z6 : w.heap.size + 1 ≤ W6.heap.size := Nat.le_trans z5 hb.size
  generalize ho6 : o5 ++ u.path = o6 at hd
  have hl6 : o6.length ≤ 600012 := by
    have h1 := HLN.out.scheme; have h2 := HLN.out.user; have h3 := HLN.out.host; have h4 := HLN.out.port; have h5 := HLN.out.path; have h6 := HLN.out.query; have h7 := HLN.out.frag
    rw [← ho6, List.length_append]
    omega
  have HO6 := hid ho6
  have HD6 := hid hd
  clear hd hb ho6 HD5 hl5 z5 HP5 c7
  have c9 := cellU ((HB6.out.block _ (by omega)).trans HRW.out) 9 (.bool u.hasQuery) rfl
  have c8 := cellU ((HB6.out.block _ (by omega)).trans HRW.out) 8 (.string (asS u.query)) rfl
  go_wp2_with fail
  refine (HP6.out o6 _ (by omega) z6 HD6.out).mono ?_
  rintro e W7 ⟨rfl, hd, hb⟩
  have HB7 := hid (HB6.out.trans hb)
  have z7 : w.heap.size + 1 ≤ W7.heap.size := Nat.le_trans z6 hb.size
  generalize ho7 : o6 ++ (if u.hasQuery = true then [63] ++ u.query else []) = o7 at hd
  have hl7 : o7.length ≤ 700014 := by
    have h1 := HLN.out.scheme; have h2 := HLN.out.user; have h3 := HLN.out.host; have h4 := HLN.out.port; have h5 := HLN.out.path; have h6 := HLN.out.query; have h7 := HLN.out.frag
    rw [← ho7, List.length_append]
    split <;> simp <;> omega
  have HO7 := hid ho7
  have HD7 := hid hd
  clear hd hb ho7 HD6 hl6 z6 HP6 c9 c8
  have c11 := cellU ((HB7.out.block _ (by omega)).trans HRW.out) 11 (.bool u.hasFrag) rfl
  have c10 := cellU ((HB7.out.block _ (by omega)).trans HRW.out) 10 (.string (asS u.frag)) rfl
  go_wp2_with fail
  refine (HP7.out o7 _ (by omega) z7 HD7.out).mono ?_
  rintro e W8 ⟨rfl, hd, hb⟩
  have HB8 := hid (HB7.out.trans hb)
  have z8 : w.heap.size + 1 ≤ W8.heap.size := Nat.le_trans z7 hb.size
  generalize ho8 : o7 ++ (if u.hasFrag = true then [35] ++ u.frag else []) = o8 at hd
  have hl8 : o8.length ≤ 800016 := by
    have h1 := HLN.out.scheme; have h2 := HLN.out.user; have h3 := HLN.out.host; have h4 := HLN.out.port; have h5 := HLN.out.path; have h6 := HLN.out.query; have h7 := HLN.out.frag
    rw [← ho8, List.length_append]
    split <;> simp <;> omega
  have HO8 := hid ho8
  have HD8 := hid hd
  clear hd hb ho8 HD7 hl7 z7 HP7 c11 c10
  have HF : Hid (o8 = J) := by
    show _ = _
    rw [HJ.out, ← HO8.out, ← HO7.out, ← HO6.out, ← HO5.out, ← HO4.out, ← HO3.out, ← HO2.out, ← HO1.out, ← HO0.out]
  have HST := hid (bstr_k (w.heap.size + 1) (w.heap.size + 1) o8 W8 HD8.out z8)
  go_wp2_with fail
  refine HST.out.mono ?_
  rintro e Wf ⟨rfl, hb⟩
  have HBf := hid (HBW.out.trans ((HB8.out.trans hb).mono (by omega)))
  clear hb
  go_wp2_with fail
  go_ret
  exact ⟨by rw [HF.out]; rfl, HBf.out⟩
end Go.Proofs.YtlblefcmilfjdaaGreatDoor
