import Derived.Laws.BitsLemmas
import Derived.Lib.EndianBits
import Derived.Test.YtgoiafndapemjaaGreatDoorProg
import Derived.Test.YtgoiafndapemjaaGreatDoorQ01
import Derived.WalkKit
import Derived.Below
import Derived.Deep.QuietTactic
import Derived.BigQuiet
import Derived.Deep.WholeRow
import Derived.Deep.MidRow
import Derived.Deep.RegionHeld3
import Derived.KernelRfl
set_option linter.unusedVariables false
set_option linter.unusedSimpArgs false
set_option maxHeartbeats 1000000
namespace Go.Proofs.YtgoiafndapemjaaGreatDoor
def rotr (x : UInt32) (n : Nat) : UInt32 := UInt32.ofNat (((x.toNat * 2 ^ (32 - n)) % 4294967296) ||| (x.toNat / 2 ^ n))
def shr (x : UInt32) (n : Nat) : UInt32 := UInt32.ofNat (x.toNat / 2 ^ n)
def be4 (a b c d : UInt8) : UInt32 := UInt32.ofNat (a.toNat * 16777216 + b.toNat * 65536 + c.toNat * 256 + d.toNat)
def sig1 (x : UInt32) : UInt32 := (rotr x 17 ^^^ rotr x 19) ^^^ shr x 10
def sig0 (x : UInt32) : UInt32 := (rotr x 7 ^^^ rotr x 18) ^^^ shr x 3
def big1 (x : UInt32) : UInt32 := (rotr x 6 ^^^ rotr x 11) ^^^ rotr x 25
def big0 (x : UInt32) : UInt32 := (rotr x 2 ^^^ rotr x 13) ^^^ rotr x 22
def choice (e f g : UInt32) : UInt32 := (e &&& f) ^^^ ((e ^^^ 4294967295) &&& g)
def most (a b c : UInt32) : UInt32 := ((a &&& b) ^^^ (a &&& c)) ^^^ (b &&& c)
def wordOf (b : List UInt8) (k : Nat) : UInt32 := be4 (b.getD (4 * k) 0) (b.getD (4 * k + 1) 0) (b.getD (4 * k + 2) 0) (b.getD (4 * k + 3) 0)
def nextW (l : List UInt32) (i : Nat) : UInt32 := ((sig1 (l.getD (i - 2) 0) + l.getD (i - 7) 0) + sig0 (l.getD (i - 15) 0)) + l.getD (i - 16) 0
def wl (b : List UInt8) : Nat → List UInt32
 | 0 => []
 | k + 1 => wl b k ++ [if k < 16 then wordOf b k else nextW (wl b k) k]
structure St where
 (a b c d e f g h : UInt32)
def tOne (s : St) (k w : UInt32) : UInt32 := (((s.h + big1 s.e) + choice s.e s.f s.g) + k) + w
def tTwo (s : St) : UInt32 := big0 s.a + most s.a s.b s.c
def rnd (s : St) (k w : UInt32) : St := ⟨tOne s k w + tTwo s, s.a, s.b, s.c, s.d + tOne s k w, s.e, s.f, s.g⟩
def rnds (ks ws : List UInt32) (s : St) : Nat → St
 | 0 => s
 | n + 1 => rnd (rnds ks ws s n) (ks.getD n 0) (ws.getD n 0)
def addS (s t : St) : St := ⟨s.a + t.a, s.b + t.b, s.c + t.c, s.d + t.d, s.e + t.e, s.f + t.f, s.g + t.g, s.h + t.h⟩
def KSs : List UInt32 := [1116352408, 1899447441, 3049323471, 3921009573, 961987163, 1508970993, 2453635748, 2870763221, 3624381080, 310598401, 607225278, 1426881987, 1925078388, 2162078206, 2614888103, 3248222580, 3835390401, 4022224774, 264347078, 604807628, 770255983, 1249150122, 1555081692, 1996064986, 2554220882, 2821834349, 2952996808, 3210313671, 3336571891, 3584528711, 113926993, 338241895, 666307205, 773529912, 1294757372, 1396182291, 1695183700, 1986661051, 2177026350, 2456956037, 2730485921, 2820302411, 3259730800, 3345764771, 3516065817, 3600352804, 4094571909, 275423344, 430227734, 506948616, 659060556, 883997877, 958139571, 1322822218, 1537002063, 1747873779, 1955562222, 2024104815, 2227730452, 2361852424, 2428436474, 2756734187, 3204031479, 3329325298]
def H0 : St := ⟨1779033703, 3144134277, 1013904242, 2773480762, 1359893119, 2600822924, 528734635, 1541459225⟩
def turnS (s : St) (b : List UInt8) : St := addS s (rnds KSs (wl b 64) s 64)
theorem wl_len (b : List UInt8) : ∀ k, (wl b k).length = k
 | 0 => rfl
 | k + 1 => by simp [wl, wl_len b k]
theorem u_lt (a : UInt32) : a.toNat < 4294967296 := a.toNat_lt
theorem u_add (a b : UInt32) : ((a.toNat : Int) + (b.toNat : Int)) % 4294967296 = ((a + b).toNat : Int) := by
 rw [UInt32.toNat_add]; omega
theorem u_bits (op : BinOp) (a b : UInt32) : bits op .u32 (a.toNat : Int) (b.toNat : Int) = ((match op with | .and => a &&& b | .or => a ||| b | .xor => a ^^^ b | _ => a &&& ~~~b).toNat : Int) := by
 have ha : BitVec.ofInt 32 (a.toNat : Int) = a.toBitVec := by
  rw [BitVec.ofInt_natCast]; exact BitVec.eq_of_toNat_eq (by simp)
 have hb : BitVec.ofInt 32 (b.toNat : Int) = b.toBitVec := by
  rw [BitVec.ofInt_natCast]; exact BitVec.eq_of_toNat_eq (by simp)
 unfold bits
 simp only [IntKind.bits, ha, hb]
 have hw : ∀ v : BitVec 32, IntKind.u32.wrap (v.toNat : Int) = (v.toNat : Int) := fun v => by
  rw [IntKind.wrap_u32]; have := v.isLt; omega
 cases op <;> exact hw _
theorem u_xor (a b : UInt32) : bits .xor .u32 (a.toNat : Int) (b.toNat : Int) = ((a ^^^ b).toNat : Int) := u_bits .xor a b
theorem u_and (a b : UInt32) : bits .and .u32 (a.toNat : Int) (b.toNat : Int) = ((a &&& b).toNat : Int) := u_bits .and a b
theorem u_or (a b : UInt32) : bits .or .u32 (a.toNat : Int) (b.toNat : Int) = ((a ||| b).toNat : Int) := u_bits .or a b
theorem u_not (a : UInt32) : bits .xor .u32 4294967295 (a.toNat : Int) = ((a ^^^ 4294967295).toNat : Int) := by
 have := u_xor 4294967295 a
 rw [UInt32.xor_comm] at this
 exact this
theorem u_not' (a : UInt32) : bits .xor .u32 (a.toNat : Int) 4294967295 = ((a ^^^ 4294967295).toNat : Int) := u_xor a 4294967295
theorem u_of (n : Nat) (h : n < 4294967296) : (UInt32.ofNat n).toNat = n := by
 rw [UInt32.toNat_ofNat']; exact Nat.mod_eq_of_lt h
theorem or_nat (x y : Nat) (hx : x < 4294967296) (hy : y < 4294967296) : bits .or .u32 (x : Int) (y : Int) = ((x ||| y : Nat) : Int) := by
 have h1 := u_of x hx
 have h2 := u_of y hy
 have := u_or (UInt32.ofNat x) (UInt32.ofNat y)
 rw [UInt32.toNat_or, h1, h2] at this
 exact this
theorem or_lt (x y : Nat) (hx : x < 4294967296) (hy : y < 4294967296) : x ||| y < 4294967296 := Nat.or_lt_two_pow (n := 32) hx hy
theorem u_rot (a : UInt32) (n : Nat) (A B : Int) (hA : A = ((a.toNat : Int) * 2 ^ (32 - n)) % 4294967296) (hB : B = (a.toNat : Int) / 2 ^ n) :
  bits .or .u32 A B = ((rotr a n).toNat : Int) := by
 have hp : (0 : Nat) < 2 ^ n := Nat.pow_pos (by omega)
 have hy : a.toNat / 2 ^ n < 4294967296 := Nat.lt_of_le_of_lt (Nat.div_le_self _ _) (u_lt a)
 have eA : A = (((a.toNat * 2 ^ (32 - n)) % 4294967296 : Nat) : Int) := by rw [hA]; simp
 have eB : B = ((a.toNat / 2 ^ n : Nat) : Int) := by rw [hB]; simp
 rw [eA, eB, or_nat _ _ (Nat.mod_lt _ (by decide)) hy]
 unfold rotr
 rw [u_of _ (or_lt _ _ (Nat.mod_lt _ (by decide)) hy)]
theorem u_rot' (a : UInt32) (n : Nat) (A B : Int) (hA : A = ((a.toNat : Int) * 2 ^ (32 - n)) % 4294967296) (hB : B = (a.toNat : Int) / 2 ^ n) :
  bits .or .u32 B A = ((rotr a n).toNat : Int) := by
 rw [← u_rot a n A B hA hB]
 unfold bits
 simp only [BitVec.or_comm]
theorem u_shr (a : UInt32) (n : Nat) : (a.toNat : Int) / 2 ^ n = ((shr a n).toNat : Int) := by
 unfold shr
 rw [u_of _ (Nat.lt_of_le_of_lt (Nat.div_le_self _ _) (u_lt a))]
 simp
def nv (x : UInt32) : Int := (x.toNat : Int)
theorem nv_add (a b : UInt32) : (nv a + nv b) % 4294967296 = nv (a + b) := u_add a b
theorem nv_xor (a b : UInt32) : bits .xor .u32 (nv a) (nv b) = nv (a ^^^ b) := u_xor a b
theorem nv_and (a b : UInt32) : bits .and .u32 (nv a) (nv b) = nv (a &&& b) := u_and a b
theorem nv_not (a : UInt32) : bits .xor .u32 4294967295 (nv a) = nv (a ^^^ 4294967295) := u_not a
theorem nv_not' (a : UInt32) : bits .xor .u32 (nv a) 4294967295 = nv (a ^^^ 4294967295) := u_not' a
theorem nv_shr10 (a : UInt32) : nv a / 1024 = nv (shr a 10) := u_shr a 10
theorem nv_shr3 (a : UInt32) : nv a / 8 = nv (shr a 3) := u_shr a 3
theorem nv_rot (a : UInt32) (n : Nat) : bits .or .u32 (nv a * 2 ^ (32 - n) % 4294967296) (nv a / 2 ^ n) = nv (rotr a n) := u_rot a n _ _ rfl rfl
theorem nv_rot' (a : UInt32) (n : Nat) : bits .or .u32 (nv a / 2 ^ n) (nv a * 2 ^ (32 - n) % 4294967296) = nv (rotr a n) := u_rot' a n _ _ rfl rfl
theorem nv_be4 (a b c d : UInt8) : bits .or .u32 (bits .or .u32 (bits .or .u32 ((a.toNat : Int) % 4294967296 * 16777216 % 4294967296) ((b.toNat : Int) % 4294967296 * 65536 % 4294967296)) ((c.toNat : Int) % 4294967296 * 256 % 4294967296)) ((d.toNat : Int) % 4294967296) = nv (be4 a b c d) := by
 have ha := a.toNat_lt; have hb := b.toNat_lt; have hc := c.toNat_lt; have hd := d.toNat_lt
 have comm : ∀ x y : Int, bits .or .u32 x y = bits .or .u32 y x := fun x y => by unfold bits; simp only [BitVec.or_comm]
 have j24 : ∀ x y : Int, 0 ≤ y → y < 16777216 → 0 ≤ x → x % 16777216 = 0 → x < 4294967296 → bits .or .u32 x y = y + x := fun x y h1 h2 h3 h4 h5 => by rw [comm]; exact u32_or24 _ _ h1 h2 h3 h4 h5
 have j16 : ∀ x y : Int, 0 ≤ y → y < 65536 → 0 ≤ x → x % 65536 = 0 → x < 4294967296 → bits .or .u32 x y = y + x := fun x y h1 h2 h3 h4 h5 => by rw [comm]; exact u32_or16 _ _ h1 h2 h3 h4 h5
 have j8 : ∀ x y : Int, 0 ≤ y → y < 256 → 0 ≤ x → x % 256 = 0 → x < 4294967296 → bits .or .u32 x y = y + x := fun x y h1 h2 h3 h4 h5 => by rw [comm]; exact u32_or8 _ _ h1 h2 h3 h4 h5
 rw [j24 ((a.toNat : Int) % 4294967296 * 16777216 % 4294967296) ((b.toNat : Int) % 4294967296 * 65536 % 4294967296) (by omega) (by omega) (by omega) (by omega) (by omega)]
 rw [j16 _ ((c.toNat : Int) % 4294967296 * 256 % 4294967296) (by omega) (by omega) (by omega) (by omega) (by omega)]
 rw [j8 _ ((d.toNat : Int) % 4294967296) (by omega) (by omega) (by omega) (by omega) (by omega)]
 unfold nv be4
 rw [u_of _ (by omega)]
 omega
end Go.Proofs.YtgoiafndapemjaaGreatDoor
namespace Go.Proofs.YtgoiafndapemjaaGreatDoor
open Go.RowKit
theorem neg_and_fin : ∀ n : Fin 32, 1 ≤ n.val → bits .and .u64 (IntKind.u64.wrap (-(n.val : Int))) 31 = 32 - (n.val : Int) := by decide +kernel
theorem neg_and (n : Nat) (h1 : 1 ≤ n) (h2 : n ≤ 31) : bits .and .u64 (IntKind.u64.wrap (-(n : Int))) 31 = 32 - (n : Int) := neg_and_fin ⟨n, by omega⟩ h1
theorem rotl_any (x : UInt32) (n : Nat) (w : World) (h1 : 1 ≤ n) (h2 : n ≤ 31) :
  Calls Tryz.prog 215 #[.int .u32 (nv x), .int .i64 (-(n : Int))] w fun e w' => e = .returned (.int .u32 (nv (rotr x n))) ∧ w' = w := by
 have hn := neg_and n h1 h2
 go_enter Tryz.func215, Tryz.ntmps215
 go_wp2
 go_ret
 exact ⟨by simp only [show 32 - (32 - n) = n from by omega, nv_rot]; rfl, rfl⟩
theorem right_any (x : UInt32) (n : Nat) (w : World) (h1 : 1 ≤ n) (h2 : n ≤ 31) :
  Calls Tryz.prog 200 #[.int .u32 (nv x), .int .i64 (n : Int)] w fun e w' => e = .returned (.int .u32 (nv (rotr x n))) ∧ w' = w := by
 go_enter Tryz.func200, Tryz.ntmps200
 go_wp2_with (go_at_call 215; refine (rotl_any x n _ h1 h2).mono ?_; rintro e w' ⟨rfl, rfl⟩)
 go_ret
 exact ⟨rfl, rfl⟩
theorem mixed_any (x : UInt32) (i j k : Nat) (w : World) (hi : 1 ≤ i ∧ i ≤ 31) (hj : 1 ≤ j ∧ j ≤ 31) (hk : 1 ≤ k ∧ k ≤ 31) :
  Calls Tryz.prog 171 #[.int .u32 (nv x), .int .i64 (i : Int), .int .i64 (j : Int), .int .i64 (k : Int)] w fun e w' => e = .returned (.int .u32 (nv ((rotr x i ^^^ rotr x j) ^^^ rotr x k))) ∧ w' = w := by
 have hx := nv_xor
 go_enter Tryz.func171, Tryz.ntmps171
 go_wp2_with fail
 refine (right_any x i _ hi.1 hi.2).mono ?_
 rintro e w' ⟨rfl, rfl⟩
 go_wp2_with fail
 refine (right_any x j _ hj.1 hj.2).mono ?_
 rintro e w' ⟨rfl, rfl⟩
 go_wp2_with fail
 refine (right_any x k _ hk.1 hk.2).mono ?_
 rintro e w' ⟨rfl, rfl⟩
 go_wp2_with fail
 go_ret
 exact ⟨rfl, rfl⟩
theorem readWord_any (g o len cap : Nat) (b0 b1 b2 b3 : UInt8) (w : World) (hl : 4 ≤ len)
  (c0 : w.cell? ⟨g, o, none⟩ = some (.int .u8 b0.toNat)) (c1 : w.cell? ⟨g, o + 1, none⟩ = some (.int .u8 b1.toNat)) (c2 : w.cell? ⟨g, o + 2, none⟩ = some (.int .u8 b2.toNat)) (c3 : w.cell? ⟨g, o + 3, none⟩ = some (.int .u8 b3.toNat)) :
  Calls Tryz.prog 199 #[.slice (some ⟨g, o, none⟩) len cap] w fun e w' => e = .returned (.int .u32 (nv (be4 b0 b1 b2 b3))) ∧ ∃ n, w' = w.drewN n := by
 go_enter Tryz.func199, Tryz.ntmps199
 go_wp2
 go_quiet (fail)
 go_wp2
 go_ret
 exact ⟨by simp only [nv_be4]; rfl, nq, rfl⟩
def put4 (w : World) (g o : Nat) (x : UInt32) : World :=
 (((w.setCell ⟨g, o, none⟩ (.int .u8 (nv x / 16777216 % 256))).setCell ⟨g, o + 1, none⟩ (.int .u8 (nv x / 65536 % 256))).setCell ⟨g, o + 2, none⟩ (.int .u8 (nv x / 256 % 256))).setCell ⟨g, o + 3, none⟩ (.int .u8 (nv x % 256))
theorem putWord_any (g o len cap : Nat) (x : UInt32) (w : World) (hl : 4 ≤ len) (cs : Array Value) (t : TypeId) (hg : w.heap[g]? = some (.cells cs t (0, 0))) (hn : o + 4 ≤ cs.size) :
  Calls Tryz.prog 148 #[.slice (some ⟨g, o, none⟩) len cap, .int .u32 (nv x)] w fun e w' => e = .returned (.tuple #[]) ∧ w' = put4 w g o x := by
 have hc : ∀ j, j < cs.size → ∃ v, w.cell? ⟨g, j, none⟩ = some v := fun j hj => ⟨cs[j], by rw [cell_of_row w g j cs t (0, 0) hg]; simp [hj]⟩
 have hf : ∀ j, w.frozen? ⟨g, j, none⟩ = false := fun j => frozen_of_row w g j cs t hg
 obtain ⟨v0, c0⟩ := hc o (by omega)
 obtain ⟨v1, c1⟩ := hc (o + 1) (by omega)
 obtain ⟨v2, c2⟩ := hc (o + 2) (by omega)
 obtain ⟨v3, c3⟩ := hc (o + 3) (by omega)
 clear hc
 have f0 := hf o
 have f1 := hf (o + 1)
 have f2 := hf (o + 2)
 have f3 := hf (o + 3)
 clear hf hg hn
 go_enter Tryz.func148, Tryz.ntmps148
 go_wp2
 go_end0
 exact ⟨rfl, rfl⟩
def wvs (l : List UInt32) : List Value := l.map fun x => Value.int .u32 (nv x)
def wcs (l : List UInt32) : Array Value := (wvs l ++ List.replicate (64 - l.length) (Value.int .u32 0)).toArray
def St.cs (s : St) : Array Value := #[Value.int .u32 (nv s.a), .int .u32 (nv s.b), .int .u32 (nv s.c), .int .u32 (nv s.d), .int .u32 (nv s.e), .int .u32 (nv s.f), .int .u32 (nv s.g), .int .u32 (nv s.h)]
theorem wcs_at (l : List UInt32) (j : Nat) (h : j < l.length) : (wcs l)[j]? = some (.int .u32 (nv (l.getD j 0))) := by
 simp [wcs, wvs, List.getD_eq_getElem?_getD, List.getElem?_append, h]
theorem wcs_snoc (l : List UInt32) (x : UInt32) (h : l.length < 64) : (wcs l).setIfInBounds l.length (.int .u32 (nv x)) = wcs (l ++ [x]) := by
 unfold wcs wvs
 rw [List.setIfInBounds_toArray, List.set_append_right _ _ (by simp)]
 obtain ⟨m, hm⟩ : ∃ m, 64 - l.length = m + 1 := ⟨64 - l.length - 1, by omega⟩
 have e : 64 - (l ++ [x]).length = m := by simp; omega
 rw [hm, e, List.replicate_succ]
 simp
theorem wvs_one (l : List UInt32) : (wvs l).toArray.all (·.oneCell') = true := by
 refine all_oneCell_toArray fun v hv => ?_
 simp only [wvs, List.mem_map] at hv
 obtain ⟨x, _, rfl⟩ := hv
 rfl
theorem wcs_full (l : List UInt32) (h : l.length = 64) : wcs l = (wvs l).toArray := by simp [wcs, h]
def SchAt (b : List UInt8) (w wr : World) (k : Nat) : Prop :=
 wr.heap[w.heap.size]? = some (.cells (bcs b) 159 (0, 0)) ∧ wr.heap[w.heap.size + 1]? = some (.cells (wcs []) 108 (0, 0)) ∧ wr.heap[w.heap.size + 1 + 1]? = some (.cells (wcs (wl b k)) 108 (0, 0)) ∧ Below w.heap.size w wr
theorem wcs_open (l : List UInt32) (j : Nat) (h : l.length ≤ j) (h2 : j < 64) : (wcs l)[j]? = some (.int .u32 0) := by
 simp [wcs, wvs, List.getElem?_append, List.getElem?_replicate, h]; omega
theorem SchAt.put {b : List UInt8} {w wr : World} {k : Nat} (h : SchAt b w wr k) (hk : k < 64) (x : UInt32) (hx : wl b (k + 1) = wl b k ++ [x]) (n : Nat) :
  SchAt b w ((wr.drewN n).setCell ⟨w.heap.size + 1 + 1, k, none⟩ (.int .u32 (nv x))) (k + 1) := by
 obtain ⟨h1, h2, h3, h4⟩ := h
 refine ⟨?_, ?_, ?_, ?_⟩
 ·rw [heap_setCell_other _ _ _ _ (by simp; omega)]; exact h1
 ·rw [heap_setCell_other _ _ _ _ (by simp)]; exact h2
 ·rw [heap_setCell_same (wr.drewN n) _ k _ 108 _ h3, hx, ← wcs_snoc _ _ (by rw [wl_len]; exact hk), wl_len]
 ·exact Below.setCell (p := ⟨w.heap.size + 1 + 1, k, none⟩) (h4.trans (below_drewN _ _ _)) (by simp; omega) _
set_option maxRecDepth 100000 in
theorem schedule_any (b : List UInt8) (hb : b.length = 64) (w : World) :
  Calls Tryz.prog 170 #[.agg (bcs b)] w fun e w' => e = .returned (.agg (wvs (wl b 64)).toArray) ∧ Below w.heap.size w w' := by
 have HB : Hid (b.length = 64) := hb
 generalize hL : wl b 64 = L
 have HL : Hid (∀ k, k = 64 → wl b k = L) := fun k hk => by rw [hk]; exact hL
 have HN : Hid (L.length = 64) := by show _ = _; rw [← hL, wl_len]
 clear hb hL
 go_enter Tryz.func170, Tryz.ntmps170
 go_wp2
 go_loopw [7] (fun i wr => ∃ k : Nat, k ≤ 64 ∧ i = .int .i64 k ∧ Hid (SchAt b w wr k)) (fun i _ => 64 - (intOf i).toNat)
 case atStart =>
  refine ⟨0, by omega, rfl, ?_, ?_, ?_, ?_⟩
  ·exact heap3_0 _ _ _ _
  ·exact heap3_1 _ _ _ _
  ·exact heap3_2 _ _ _ _
  ·exact (((Below.refl _ _).alloc (Nat.le_refl _) _).alloc (by simp) _).alloc (by simp; omega) _
 case round =>
  obtain ⟨k, hk, rfl, HS⟩ := hrel
  by_cases hlt : k < 64
  ·by_cases h16 : k < 16
   ·have hc : ∀ j, j < 64 → wr.cell? ⟨w.heap.size, j, none⟩ = some (.int .u8 (b.getD j 0).toNat) := fun j hj => by
     rw [cell_of_row _ _ _ _ _ _ HS.out.1, bcs_at _ _ (by rw [HB.out]; exact hj)]
    have c0 := hc (4 * k) (by omega)
    have c1 := hc (4 * k + 1) (by omega)
    have c2 := hc (4 * k + 2) (by omega)
    have c3 := hc (4 * k + 3) (by omega)
    clear hc
    have hsl := slice_from (P := Tryz.prog) 159 64 5 Tryz.underlying159 Tryz.sizeOf5 w.heap.size 0 (4 * k) (4 * (k : Int)) (by omega) (by omega)
    simp only [Nat.zero_add] at hsl
    go_wp2_with fail
    refine (readWord_any _ _ _ _ _ _ _ _ _ (by omega) c0 c1 c2 c3).mono ?_
    rintro e w' ⟨rfl, n, rfl⟩
    clear c0 c1 c2 c3 hsl
    have hcW : wr.cell? ⟨w.heap.size + 1 + 1, k, none⟩ = some (.int .u32 0) := by
     rw [cell_of_row _ _ _ _ _ _ HS.out.2.2.1, wcs_open _ _ (by rw [wl_len]; exact Nat.le_refl _) hlt]
    have hfW : wr.frozen? ⟨w.heap.size + 1 + 1, k, none⟩ = false := frozen_of_row _ _ _ _ _ HS.out.2.2.1
    have HW : Hid (wl b (k + 1) = wl b k ++ [wordOf b k]) := by show _ = _; rw [wl, if_pos h16]
    go_wp2_with fail
    go_roundw
    case rel => exact ⟨k + 1, by omega, by go_num, SchAt.put HS.out hlt _ HW.out n⟩
    case measure => simp [intOf]; omega
   ·have hc : ∀ j, j < k → wr.cell? ⟨w.heap.size + 1 + 1, j, none⟩ = some (.int .u32 (nv ((wl b k).getD j 0))) := fun j hj => by
     rw [cell_of_row _ _ _ _ _ _ HS.out.2.2.1, wcs_at _ _ (by rw [wl_len]; exact hj)]
    obtain ⟨x2, e2⟩ : ∃ x, Hid (x = (wl b k).getD (k - 2) 0) := ⟨_, rfl⟩
    obtain ⟨x15, e15⟩ : ∃ x, Hid (x = (wl b k).getD (k - 15) 0) := ⟨_, rfl⟩
    obtain ⟨x7, e7⟩ : ∃ x, Hid (x = (wl b k).getD (k - 7) 0) := ⟨_, rfl⟩
    obtain ⟨x16, e16⟩ : ∃ x, Hid (x = (wl b k).getD (k - 16) 0) := ⟨_, rfl⟩
    have c2 := hc (k - 2) (by omega)
    have c15 := hc (k - 15) (by omega)
    have c7 := hc (k - 7) (by omega)
    have c16 := hc (k - 16) (by omega)
    rw [← e2.out] at c2
    rw [← e15.out] at c15
    rw [← e7.out] at c7
    rw [← e16.out] at c16
    clear hc
    have hcW : wr.cell? ⟨w.heap.size + 1 + 1, k, none⟩ = some (.int .u32 0) := by
     rw [cell_of_row _ _ _ _ _ _ HS.out.2.2.1, wcs_open _ _ (by rw [wl_len]; exact Nat.le_refl _) hlt]
    have hfW : wr.frozen? ⟨w.heap.size + 1 + 1, k, none⟩ = false := frozen_of_row _ _ _ _ _ HS.out.2.2.1
    have HW : Hid (wl b (k + 1) = wl b k ++ [((sig1 x2 + x7) + sig0 x15) + x16]) := by show _ = _; rw [wl, if_neg h16, e2.out, e7.out, e15.out, e16.out]; rfl
    have hx := nv_xor
    have ha := nv_add
    have h10 := nv_shr10
    have h3 := nv_shr3
    go_wp2_with fail
    go_quiet (fail)
    go_wp2_with fail
    refine (right_any x2 17 _ (by omega) (by omega)).mono ?_
    rintro e w' ⟨rfl, rfl⟩
    go_wp2_with fail
    refine (right_any x2 19 _ (by omega) (by omega)).mono ?_
    rintro e w' ⟨rfl, rfl⟩
    go_wp2_with fail
    refine (right_any x15 7 _ (by omega) (by omega)).mono ?_
    rintro e w' ⟨rfl, rfl⟩
    go_wp2_with fail
    refine (right_any x15 18 _ (by omega) (by omega)).mono ?_
    rintro e w' ⟨rfl, rfl⟩
    go_wp2_with fail
    have b1 : (0 : Int) ≤ (k : Int) - 7 := by omega
    have b2 : (k : Int) - 7 < 64 := by omega
    have b3 : (0 : Int) ≤ (k : Int) - 16 := by omega
    have b4 : (k : Int) - 16 < 64 := by omega
    have b5 : (0 : Int) ≤ (k : Int) := by omega
    have b6 : (k : Int) < 64 := by omega
    have b7 : IntKind.i64.wrap ((k : Int) - 7) = (k : Int) - 7 := by rw [IntKind.wrap_i64]; omega
    have b8 : IntKind.i64.wrap ((k : Int) - 16) = (k : Int) - 16 := by rw [IntKind.wrap_i64]; omega
    have b9 : ((k : Int) - 7).toNat = k - 7 := by omega
    have b10 : ((k : Int) - 16).toNat = k - 16 := by omega
    clear e2 e15 e7 e16
    go_region
    go_wp2_with fail
    go_roundw
    case rel => exact ⟨k + 1, by omega, by go_num, SchAt.put HS.out hlt _ HW.out _⟩
    case measure => simp [intOf]; omega
  ·obtain ⟨h1, h2, h3, h4⟩ := HS.out
   rw [HL.out k (by omega), wcs_full L HN.out] at h3
   have hi : (Tryz.prog.info? 108).map (·.size) = some (wvs L).toArray.size := by
    have : (Tryz.prog.info? 108).map (·.size) = some 64 := by kernel_rfl
    rw [this]; simp [wvs, HN.out]
   have H1 := hid h2
   have H2 := hid h3
   have H4 := hid h4
   have HI := hid hi
   have HT := hid (there_row h2 0 (wvs L).toArray.size (by simp [wcs, wvs, HN.out]))
   have HO := hid (wvs_one L)
   clear h1 h2 h3 h4 HS hi
   go_wp2_with (first
    | (refine wpList_load_row rfl 108 (.tmp 3) rfl (w.heap.size + 1 + 1) rfl 108 (wvs L).toArray (0, 0) (.array 64 106) H2.out Tryz.underlying108 rfl HI.out ?_)
    | (refine wpList_store_mid rfl 108 (.tmp 2) (.tmp 58) rfl (w.heap.size + 1) 0 (wvs L).toArray rfl rfl HT.out HI.out HO.out ?_))
   have hg := setCells_heap (w.heap.size + 1) 108 (wvs L) 0 wr (wcs []) H1.out
   rw [show over (wcs []) 0 (wvs L) = (wvs L).toArray from over_whole (wcs []) (wvs L).toArray (by simp [wcs, wvs, HN.out])] at hg
   exact bodyPost_ret (v := .agg (wvs L).toArray) (results_cell_row (p := 2) (ty := 108) Tryz.results170 _ _ (w.heap.size + 1) 108 _ (0, 0) (.array 64 106) rfl hg Tryz.underlying108 rfl HI.out) rfl ⟨rfl, setCells_below _ _ (by omega) _ _ _ _ H4.out⟩
end Go.Proofs.YtgoiafndapemjaaGreatDoor
