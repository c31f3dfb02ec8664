/- Texts in one: Rot, Sha. -/
import Derived.Test.YtmikfmcgddmplaaGreatDoorProg
import Derived.Test.YtmikfmcgddmplaaGreatDoorWords
import Derived.WalkSpells
import Derived.WalkLawsBesides
/- The rotation of a word: the contracts of sum.rotated and the document's own. -/
namespace Go.Proofs.YtmikfmcgddmplaaGreatDoor
open Go.RowKit

theorem and31 (n : Nat) (h1 : 1 ≤ n) (h2 : n ≤ 31) : bits .and .u64 (IntKind.u64.wrap (-(n : Int))) 31 = ((32 - n : Nat) : Int) := by
  have hw : IntKind.u64.wrap (-(n : Int)) = 18446744073709551616 - (n : Int) := by rw [IntKind.wrap_u64]; omega
  have hb : (18446744073709551616 - (n : Int)).toNat = 18446744073709551616 - n := by omega
  rw [hw, u64_and _ _ (by omega) (by omega) (by omega) (by omega), hb]
  rw [show (31 : Int).toNat = 31 from rfl, nat_mask5]
  omega

set_option maxHeartbeats 400000 in
theorem rotated_any (x : UInt32) (n : Nat) (h1 : 1 ≤ n) (h2 : n ≤ 31) (w : World) :
    Calls Tryz.prog 160 #[.int .u32 (wd x), .int .i64 (n : Int)] w fun e w' => e = .returned (.int .u32 (wd (rotr x n))) ∧ w' = w := by
  have h := and31 n h1 h2
  have hr := wd_rot x n h1 h2
  generalize hc : 32 - n = c at *
  have hd : IntKind.u64.wrap (32 - (c : Int)) = n := by rw [IntKind.wrap_u64]; omega
  have hm : min c 32 = c := by omega
  have hn : min n 32 = n := by omega
  clear hc
  go_enter Tryz.func160, Tryz.ntmps160
  go_wp2
  go_ret
  rw [IntKind.wrap_u32'] at hr
  rw [← hr]
  exact ⟨rfl, rfl⟩

theorem rotated_int (x : UInt32) (m : Int) (h1 : 1 ≤ m) (h2 : m ≤ 31) (w : World) :
    Calls Tryz.prog 160 #[.int .u32 (wd x), .int .i64 m] w fun e w' => e = .returned (.int .u32 (wd (rotr x m.toNat))) ∧ w' = w := by
  obtain ⟨n, rfl⟩ := Int.eq_ofNat_of_zero_le (show 0 ≤ m by omega)
  exact rotated_any x n (by omega) (by omega) w

end Go.Proofs.YtmikfmcgddmplaaGreatDoor

/- Plain mathematics: SHA-256 by lists of words, as the program reckons it: no program is named here. -/
namespace Go.Proofs.YtmikfmcgddmplaaGreatDoor
open Go.RowKit

/-- Words as cells. -/
def wv (x : UInt32) : Value := .int .u32 (wd x)
def warr (l : List UInt32) : Array Value := (l.map wv).toArray
theorem warr_size (l : List UInt32) : (warr l).size = l.length := by simp [warr]
theorem warr_at (l : List UInt32) (i : Nat) (h : i < l.length) : (warr l)[i]? = some (.int .u32 (wd (l.getD i 0))) := by
  simp [warr, wv, h]
theorem warr_set (l : List UInt32) (i : Nat) (x : UInt32) : (warr l).setIfInBounds i (.int .u32 (wd x)) = warr (l.set i x) := by
  unfold warr
  apply Array.ext'
  simp [List.map_set, wv]
theorem warr_one (l : List UInt32) : (warr l).all (·.oneCell') = true := by
  rw [Array.all_eq_true_iff_forall_mem]
  intro v hv
  simp only [warr, List.mem_toArray, List.mem_map] at hv
  obtain ⟨x, _, rfl⟩ := hv
  rfl
theorem warr_zero (n : Nat) : warr (List.replicate n 0) = Array.replicate n (.int .u32 0) := by
  unfold warr
  apply Array.ext'
  simp [wv, wd]

/-- The constants of the rounds. -/
def kTab : List UInt32 := [
  0x428a2f98, 0x71374491, 0xb5c0fbcf, 0xe9b5dba5, 0x3956c25b, 0x59f111f1, 0x923f82a4, 0xab1c5ed5, 0xd807aa98, 0x12835b01, 0x243185be, 0x550c7dc3, 0x72be5d74, 0x80deb1fe, 0x9bdc06a7, 0xc19bf174,
  0xe49b69c1, 0xefbe4786, 0x0fc19dc6, 0x240ca1cc, 0x2de92c6f, 0x4a7484aa, 0x5cb0a9dc, 0x76f988da, 0x983e5152, 0xa831c66d, 0xb00327c8, 0xbf597fc7, 0xc6e00bf3, 0xd5a79147, 0x06ca6351, 0x14292967,
  0x27b70a85, 0x2e1b2138, 0x4d2c6dfc, 0x53380d13, 0x650a7354, 0x766a0abb, 0x81c2c92e, 0x92722c85, 0xa2bfe8a1, 0xa81a664b, 0xc24b8b70, 0xc76c51a3, 0xd192e819, 0xd6990624, 0xf40e3585, 0x106aa070,
  0x19a4c116, 0x1e376c08, 0x2748774c, 0x34b0bcb5, 0x391c0cb3, 0x4ed8aa4a, 0x5b9cca4f, 0x682e6ff3, 0x748f82ee, 0x78a5636f, 0x84c87814, 0x8cc70208, 0x90befffa, 0xa4506ceb, 0xbef9a3f7, 0xc67178f2]
theorem kTab_length : kTab.length = 64 := rfl
def startH : List UInt32 := [0x6a09e667, 0xbb67ae85, 0x3c6ef372, 0xa54ff53a, 0x510e527f, 0x9b05688c, 0x1f83d9ab, 0x5be0cd19]

/-- The eight words of a round. -/
structure H8 where
  a : UInt32
  b : UInt32
  c : UInt32
  d : UInt32
  e : UInt32
  f : UInt32
  g : UInt32
  h : UInt32
def H8.list (s : H8) : List UInt32 := [s.a, s.b, s.c, s.d, s.e, s.f, s.g, s.h]
def H8.of (l : List UInt32) : H8 := ⟨l.getD 0 0, l.getD 1 0, l.getD 2 0, l.getD 3 0, l.getD 4 0, l.getD 5 0, l.getD 6 0, l.getD 7 0⟩

def rx (k w : UInt32) (s : H8) : UInt32 := s.h + (rotr s.e 6 ^^^ rotr s.e 11 ^^^ rotr s.e 25) + ((s.e &&& s.f) ^^^ (~~~s.e &&& s.g)) + k + w
def ry (s : H8) : UInt32 := (rotr s.a 2 ^^^ rotr s.a 13 ^^^ rotr s.a 22) + ((s.a &&& s.b) ^^^ (s.a &&& s.c) ^^^ (s.b &&& s.c))
def round (k w : UInt32) (s : H8) : H8 := ⟨rx k w s + ry s, s.a, s.b, s.c, s.d + rx k w s, s.e, s.f, s.g⟩
def roundsTo (ws : List UInt32) (s : H8) : Nat → H8
  | 0 => s
  | n + 1 => round (kTab.getD n 0) (ws.getD n 0) (roundsTo ws s n)

/-- each head and its new value, the first n of them -/
def addTo (hs vs : List UInt32) : Nat → List UInt32
  | 0 => hs
  | n + 1 => (addTo hs vs n).set n (hs.getD n 0 + vs.getD n 0)
theorem addTo_length (hs vs : List UInt32) (n : Nat) : (addTo hs vs n).length = hs.length := by
  induction n with
  | zero => rfl
  | succ n ih => simp [addTo, ih]
theorem addTo_ge (hs vs : List UInt32) (n i : Nat) (h : n ≤ i) : (addTo hs vs n).getD i 0 = hs.getD i 0 := by
  induction n with
  | zero => rfl
  | succ n ih => simp only [addTo]; rw [← ih (by omega)]; simp [List.getD_eq_getElem?_getD, show n ≠ i by omega]

/-- one block of 64 words -/
def compress (hs ws : List UInt32) : List UInt32 := addTo hs (roundsTo ws (H8.of hs) 64).list 8
theorem compress_length (hs ws : List UInt32) : (compress hs ws).length = hs.length := addTo_length _ _ _

/-- the word of four bytes at 4 i -/
def beWord (l : List UInt8) (i : Nat) : UInt32 :=
  UInt32.ofNat (((l.getD (4 * i) 0).toNat * 256 + (l.getD (4 * i + 1) 0).toNat) * 65536 + ((l.getD (4 * i + 2) 0).toNat * 256 + (l.getD (4 * i + 3) 0).toNat))
def sig0 (x : UInt32) : UInt32 := rotr x 7 ^^^ rotr x 18 ^^^ shr x 3
def sig1 (x : UInt32) : UInt32 := rotr x 17 ^^^ rotr x 19 ^^^ shr x 10
def firstTo (l : List UInt8) : Nat → List UInt32
  | 0 => List.replicate 64 0
  | n + 1 => (firstTo l n).set n (beWord l n)
def schedTo (l : List UInt8) : Nat → List UInt32
  | 0 => firstTo l 16
  | n + 1 => (schedTo l n).set (n + 16) ((schedTo l n).getD n 0 + sig0 ((schedTo l n).getD (n + 1) 0) + (schedTo l n).getD (n + 9) 0 + sig1 ((schedTo l n).getD (n + 14) 0))
theorem firstTo_length (l : List UInt8) (n : Nat) : (firstTo l n).length = 64 := by
  induction n with
  | zero => rfl
  | succ n ih => simp [firstTo, ih]
theorem schedTo_length (l : List UInt8) (n : Nat) : (schedTo l n).length = 64 := by
  induction n with
  | zero => exact firstTo_length l 16
  | succ n ih => simp [schedTo, ih]
def block (hs : List UInt32) (l : List UInt8) : List UInt32 := compress hs (schedTo l 48)
theorem block_length (hs : List UInt32) (l : List UInt8) : (block hs l).length = hs.length := compress_length _ _

/-- all whole blocks, the first n of them -/
def blocksN : Nat → List UInt32 → List UInt8 → List UInt32
  | 0, hs, _ => hs
  | n + 1, hs, l => if 64 ≤ l.length then blocksN n (block hs (l.take 64)) (l.drop 64) else hs
theorem blocksN_same (n : Nat) : ∀ (m : Nat) (hs : List UInt32) (l : List UInt8), l.length ≤ n → l.length ≤ m → blocksN n hs l = blocksN m hs l := by
  induction n with
  | zero =>
    intro m hs l hn _
    cases m with
    | zero => rfl
    | succ m => simp only [blocksN]; rw [if_neg (by omega)]
  | succ n ih =>
    intro m hs l hn hm
    cases m with
    | zero => simp only [blocksN]; rw [if_neg (by omega)]
    | succ m =>
      simp only [blocksN]
      by_cases h : 64 ≤ l.length
      · rw [if_pos h, if_pos h]; exact ih m _ _ (by simp; omega) (by simp; omega)
      · rw [if_neg h, if_neg h]
def blocks (hs : List UInt32) (l : List UInt8) : List UInt32 := blocksN l.length hs l
theorem blocks_step (hs : List UInt32) (l : List UInt8) (h : 64 ≤ l.length) : blocks hs l = blocks (block hs (l.take 64)) (l.drop 64) := by
  unfold blocks
  rw [blocksN_same l.length (l.length + 1) hs l (Nat.le_refl _) (by omega)]
  simp only [blocksN]
  rw [if_pos h]
  exact blocksN_same _ _ _ _ (by simp) (Nat.le_refl _)
theorem blocks_end (hs : List UInt32) (l : List UInt8) (h : l.length < 64) : blocks hs l = hs := by
  unfold blocks
  cases hl : l.length with
  | zero => rfl
  | succ n => simp only [blocksN]; rw [if_neg (by omega)]

def b24 (x : UInt32) : UInt8 := UInt8.ofNat (x.toNat / 16777216)
def b16 (x : UInt32) : UInt8 := UInt8.ofNat (x.toNat / 65536)
def b8 (x : UInt32) : UInt8 := UInt8.ofNat (x.toNat / 256)
def b0 (x : UInt32) : UInt8 := UInt8.ofNat x.toNat
def wbytes (x : UInt32) : List UInt8 := [b24 x, b16 x, b8 x, b0 x]
theorem wd_b24 (x : UInt32) : IntKind.u8.wrap (wd x / 16777216) = ((b24 x).toNat : Int) := by unfold b24; rw [IntKind.wrap_u8', UInt8.toNat_ofNat']; unfold wd; omega
theorem wd_b16 (x : UInt32) : IntKind.u8.wrap (wd x / 65536) = ((b16 x).toNat : Int) := by unfold b16; rw [IntKind.wrap_u8', UInt8.toNat_ofNat']; unfold wd; omega
theorem wd_b8 (x : UInt32) : IntKind.u8.wrap (wd x / 256) = ((b8 x).toNat : Int) := by unfold b8; rw [IntKind.wrap_u8', UInt8.toNat_ofNat']; unfold wd; omega
theorem wd_b0 (x : UInt32) : IntKind.u8.wrap (wd x) = ((b0 x).toNat : Int) := by unfold b0; rw [IntKind.wrap_u8', UInt8.toNat_ofNat']; unfold wd; omega
/-- four bytes a word, the first n words -/
def outTo (hs : List UInt32) : Nat → List UInt8
  | 0 => List.replicate 32 0
  | n + 1 => ((((outTo hs n).set (4 * n) (b24 (hs.getD n 0))).set (4 * n + 1) (b16 (hs.getD n 0))).set (4 * n + 2) (b8 (hs.getD n 0))).set (4 * n + 3) (b0 (hs.getD n 0))
theorem outTo_length (hs : List UInt32) (n : Nat) : (outTo hs n).length = 32 := by
  induction n with
  | zero => rfl
  | succ n ih => simp [outTo, ih]
def digest (hs : List UInt32) : List UInt8 := hs.flatMap wbytes
theorem outTo_digest (hs : List UInt32) (h : hs.length = 8) : outTo hs 8 = digest hs := by
  match hs, h with
  | [a, b, c, d, e, f, g, i], _ => simp [outTo, digest, wbytes, List.replicate]
theorem digest_length (hs : List UInt32) (h : hs.length = 8) : (digest hs).length = 32 := by rw [← outTo_digest hs h, outTo_length]
def lenBytes (n : Nat) : List UInt8 := [UInt8.ofNat (n / 72057594037927936), UInt8.ofNat (n / 281474976710656), UInt8.ofNat (n / 1099511627776), UInt8.ofNat (n / 4294967296), UInt8.ofNat (n / 16777216), UInt8.ofNat (n / 65536), UInt8.ofNat (n / 256), UInt8.ofNat n]
def pad (many : Nat) : List UInt8 := 128 :: (List.replicate (63 - (many + 8) % 64) 0 ++ lenBytes (many * 8))
def shaFrom (hs : List UInt32) (rest : List UInt8) (many : Nat) : List UInt8 := digest (blocks hs (rest ++ pad many))
def sha (l : List UInt8) : List UInt8 := shaFrom (blocks startH l) (l.drop (l.length - l.length % 64)) l.length

theorem be_join (a b c d : UInt8) :
    bits .or .u32 (bits .or .u32 (bits .or .u32 (IntKind.u32.wrap (IntKind.u32.wrap (a.toNat : Int) * 16777216)) (IntKind.u32.wrap (IntKind.u32.wrap (b.toNat : Int) * 65536)))
      (IntKind.u32.wrap (IntKind.u32.wrap (c.toNat : Int) * 256))) (IntKind.u32.wrap (d.toNat : Int)) = wd (UInt32.ofNat ((a.toNat * 256 + b.toNat) * 65536 + (c.toNat * 256 + d.toNat))) := by
  have ha := a.toNat_lt
  have hb := b.toNat_lt
  have hc := c.toNat_lt
  have hd := d.toNat_lt
  have e1 : IntKind.u32.wrap (IntKind.u32.wrap (a.toNat : Int) * 16777216) = ((a.toNat * 16777216 : Nat) : Int) := by simp only [IntKind.wrap_u32']; omega
  have e2 : IntKind.u32.wrap (IntKind.u32.wrap (b.toNat : Int) * 65536) = ((b.toNat * 65536 : Nat) : Int) := by simp only [IntKind.wrap_u32']; omega
  have e3 : IntKind.u32.wrap (IntKind.u32.wrap (c.toNat : Int) * 256) = ((c.toNat * 256 : Nat) : Int) := by simp only [IntKind.wrap_u32']; omega
  have e4 : IntKind.u32.wrap (d.toNat : Int) = (d.toNat : Int) := by simp only [IntKind.wrap_u32']; omega
  rw [e1, e2, e3, e4, u32_or_nat _ _ (by omega) (by omega), nat_join 24 _ _ (by omega) (by omega), u32_or_nat _ _ (by omega) (by omega), nat_join 16 _ _ (by omega) (by omega),
    u32_or_nat _ _ (by omega) (by omega), nat_join 8 _ _ (by omega) (by omega), wd_ofNat]
  omega
theorem extract_at (s : ByteArray) (a b j : Nat) (hj : j < (s.extract a b).size) : (s.extract a b)[j] = s.data.toList.getD (a + j) 0 := by
  have h1 : j < min b s.size - a := by simpa [ByteArray.size_extract] using hj
  have h2 : a + j < s.data.size := by show _ < s.size; omega
  rw [ByteArray.getElem_extract]
  simp only [List.getD_eq_getElem?_getD, Array.getElem?_toList]
  rw [Array.getElem?_eq_getElem h2]
  rfl
theorem extract_list (s : ByteArray) (a b : Nat) : (s.extract a b).data.toList = (s.data.toList.take b).drop a := by
  simp [ByteArray.data_extract, Array.toList_extract, List.extract_eq_take_drop, List.drop_take]
theorem beWord_of (s p : ByteArray) (k : Nat) (hp : p = s.extract (4 * k) (4 * k + 4)) (h3 : 3 < p.size) :
    UInt32.ofNat ((p[0].toNat * 256 + p[1].toNat) * 65536 + (p[2].toNat * 256 + p[3].toNat)) = beWord s.data.toList k := by
  subst hp
  unfold beWord
  rw [extract_at, extract_at, extract_at, extract_at]
  rfl

theorem wbytes_length (x : UInt32) : (wbytes x).length = 4 := rfl

end Go.Proofs.YtmikfmcgddmplaaGreatDoor
