/- bytes.LastIndex: the last place at which a piece stands. -/
import Derived.Test.YtabnfnejlffioaaLook
import Derived.Lib.LastIndexLaws
import Derived.Lib.SlBytesRow
import Derived.Lib.Bytealg
namespace Go.Proofs.Ytabnfnejlffioaa
open Go.RowKit Go.Lib
set_option linter.unusedVariables false

attribute [local go_sem ↓] Go.wp_at_zero Go.wp_at_succ

theorem rev_step (s : ByteArray) (K : Nat) (hK : K < s.size) {h : Int} (hh : h = RK.H (s.data.toList.drop (K + 1)).reverse % 4294967296) :
    (h * 16777619 % 4294967296 + ((s[K]).toNat : Int) % 4294967296) % 4294967296 = RK.H (s.data.toList.drop K).reverse % 4294967296 := LastIndex.hashrev_step s (K + 1) (by omega) (by omega) hh

set_option maxRecDepth 100000 in
set_option maxHeartbeats 2000000 in
theorem hashrev_ok (b o c : Nat) (sep : ByteArray) (hs : sep.size ≤ 140737488355328) (w : World) (hc : Lib.Bytes w b o sep) :
    Calls Try.prog 49 #[.slice (some ⟨b, o, none⟩) sep.size c] w fun e w' => e = .returned (.tuple #[.int .u32 (RK.H sep.data.toList.reverse % 4294967296), .int .u32 (16777619 ^ sep.size % 4294967296)]) ∧ w' = w := by
  have HC := hide hc
  clear hc
  obtain ⟨n, hn⟩ : ∃ n, n = sep.size := ⟨_, rfl⟩
  rw [← hn] at hs ⊢
  have HN := hide hn
  clear hn
  go_enter Try.func49, Try.ntmps49
  go_wp2_with fail
  go_loopg [4, 5] n (fun gk vh vi ws => ∃ (k : Nat) (h : Int), k = gk ∧ k ≤ n ∧ vi = .int .i64 ((k : Int) - 1) ∧ vh = .int .u32 h ∧ Hid (h = RK.H (sep.data.toList.drop k).reverse % 4294967296) ∧ w = ws)
  case atStart => exact ⟨n, 0, rfl, Nat.le_refl _, rfl, rfl, hide (by rw [List.drop_of_length_le (by rw [unhide HN]; simp)]; rfl), rfl⟩
  case round =>
    obtain ⟨k, h, rfl, hk, rfl, rfl, hh, rfl⟩ := hrel
    by_cases hk1 : 1 ≤ k
    · obtain ⟨K, hK⟩ : ∃ K : Nat, (k : Int) - 1 = (K : Int) := ⟨k - 1, by omega⟩
      have hK0 : K < sep.size := by rw [← unhide HN]; omega
      have c1 := unhide HC K hK0
      have HST := hide (rev_step sep K hK0 (h := h) (by have := unhide hh; rw [show k = K + 1 by omega] at this; exact this))
      have hKn : K < n := by omega
      clear hh
      go_wp2_with fail
      go_roundg K
      case measure => omega
      case rel => exact ⟨K, _, rfl, by omega, rfl, rfl, HST, rfl⟩
    · obtain rfl : k = 0 := by omega
      have HH : Hid (h = RK.H sep.data.toList.reverse % 4294967296) := hide (by have := unhide hh; rwa [List.drop_zero] at this)
      clear hh
      go_wp2_with fail
      go_loopg [6, 7, 8] n (fun gk vp vq vi ws => ∃ (i : Nat) (pw sq : Int), i = gk ∧ vi = .int .i64 (i : Int) ∧ vp = .int .u32 pw ∧ vq = .int .u32 sq ∧ 0 ≤ pw ∧ pw < 4294967296 ∧ i ≤ n ∧ Hid (RK.PowInv sep.size i pw sq) ∧ w = ws)
      case atStart => exact ⟨n, 1, 16777619, rfl, rfl, rfl, rfl, by omega, by omega, Nat.le_refl _, hide (by rw [unhide HN]; exact RK.pow_start _), rfl⟩
      case round =>
        obtain ⟨i, pw, sq, rfl, rfl, rfl, rfl, p0, p1, hi, hinv, rfl⟩ := hrel
        have ea := and_one i (by omega)
        by_cases hi0 : 0 < i
        · have hii : (0 : Int) < (i : Int) := by omega
          obtain ⟨i2, hi2⟩ : ∃ i2, i2 = i / 2 := ⟨_, rfl⟩
          by_cases hodd : i % 2 = 1
          · have ht : ((i : Int) % 2 != 0) = true := by simp; omega
            have HPW := hide (RK.pow_odd (unhide hinv) hodd)
            rw [← hi2] at HPW
            have hi2b : i2 < i := by omega
            have HI2 := hide hi2
            clear hinv hi2
            go_wp2_with fail
            go_roundg i2
            case measure => omega
            case rel => exact ⟨i2, _, _, rfl, by rw [unhide HI2]; first | rfl | (congr 1; omega), rfl, rfl, by omega, by omega, by omega, HPW, rfl⟩
          · have ht : ((i : Int) % 2 != 0) = false := by simp; omega
            have HPW := hide (RK.pow_even (unhide hinv) (show i % 2 = 0 by omega))
            rw [← hi2] at HPW
            have hi2b : i2 < i := by omega
            have HI2 := hide hi2
            clear hinv hi2
            go_wp2_with fail
            go_roundg i2
            case measure => omega
            case rel => exact ⟨i2, _, _, rfl, by rw [unhide HI2]; first | rfl | (congr 1; omega), rfl, rfl, p0, p1, by omega, HPW, rfl⟩
        · obtain rfl : i = 0 := by omega
          have e2 := RK.pow_end (unhide hinv) p0 p1
          have HE : Hid (pw = 16777619 ^ n % 4294967296) := hide (by rw [unhide HN]; exact e2)
          clear hinv e2
          go_wp2_with fail
          go_ret2
          rw [unhide HH, unhide HE]
          exact ⟨rfl, rfl⟩

/-- a piece stands at a place -/
def Stands (zs ys : List Nat) (j : Nat) : Prop := ∀ i, i < ys.length → zs.getD (j + i) 0 = ys.getD i 0

/-- the last place of those below k at which it stands, or none -/
def LastIs (zs ys : List Nat) (k : Nat) (r : Int) : Prop := (r = -1 ∧ ∀ j, j < k → ¬ Stands zs ys j) ∨ ∃ j : Nat, r = (j : Int) ∧ j < k ∧ Stands zs ys j ∧ ∀ j', j < j' → j' < k → ¬ Stands zs ys j'

theorem LastIs.step {zs ys : List Nat} {k : Nat} {r : Int} (h : LastIs zs ys k r) (hn : ¬ Stands zs ys k) : LastIs zs ys (k + 1) r := by
  rcases h with ⟨h1, h2⟩ | ⟨j, h1, h2, h3, h4⟩
  · exact .inl ⟨h1, fun j hj => by by_cases e : j = k; (subst e; exact hn); exact h2 j (by omega)⟩
  · exact .inr ⟨j, h1, by omega, h3, fun j' a b => by by_cases e : j' = k; (subst e; exact hn); exact h4 j' a (by omega)⟩

theorem LastIs.hit {zs ys : List Nat} {k : Nat} (h : Stands zs ys k) : LastIs zs ys (k + 1) (k : Int) := .inr ⟨k, rfl, by omega, h, fun j' a b => by omega⟩

/-- none from a place on, so the last of those below it is the last of all -/
theorem LastIs.up {zs ys : List Nat} {j m : Nat} {r : Int} (h : LastIs zs ys j r) (hj : j ≤ m) (hn : ∀ i, j ≤ i → i < m → ¬ Stands zs ys i) : LastIs zs ys m r := by
  rcases h with ⟨h1, h2⟩ | ⟨i, h1, h2, h3, h4⟩
  · exact .inl ⟨h1, fun x hx => by by_cases e : x < j; exact h2 x e; exact hn x (by omega) hx⟩
  · exact .inr ⟨i, h1, by omega, h3, fun x a b => by by_cases e : x < j; exact h4 x a e; exact hn x (by omega) b⟩

set_option maxRecDepth 100000 in
set_option maxHeartbeats 1000000 in
/-- the last place of a byte -/
theorem lastbyte_ok (zs : List Nat) (a : Option Addr) (cap B x : Nat) (w : World) (hr : ReadsU B w (.slice a zs.length cap) zs) (hl : zs.length ≤ 140737488355328) :
    Calls Try.prog 40 #[.slice a zs.length cap, .int .u8 (x : Int)] w fun e w' => ∃ r : Int, e = .returned (.int .i64 r) ∧ LastIs zs [x] zs.length r ∧ w' = w := by
  have HR := hide hr
  clear hr
  obtain ⟨n, hn⟩ : ∃ n, n = zs.length := ⟨_, rfl⟩
  rw [← hn] at HR hl ⊢
  have HN := hide hn
  clear hn
  go_enter Try.func40, Try.ntmps40
  go_wp2_with fail
  go_loopg [5] n (fun gk vi ws => ∃ (k : Nat), k = gk ∧ k ≤ n ∧ vi = .int .i64 ((k : Int) - 1) ∧ Hid (∀ j, k ≤ j → j < n → ¬ Stands zs [x] j) ∧ w = ws)
  case atStart => exact ⟨n, rfl, Nat.le_refl _, rfl, hide fun j a b => by omega, rfl⟩
  case round =>
    obtain ⟨k, rfl, hk, rfl, hno, rfl⟩ := hrel
    by_cases hk1 : 1 ≤ k
    · obtain ⟨K, hK⟩ : ∃ K : Nat, (k : Int) - 1 = (K : Int) := ⟨k - 1, by omega⟩
      have hKn : K < n := by omega
      have hkK : k = K + 1 := by omega
      obtain ⟨a', c', e, _, hs⟩ := unhide HR
      injection e with e1 e2 e3
      subst e1 e3
      clear e2
      obtain ⟨b, off, rfl, _, hcell⟩ := hs (by rw [← unhide HN]; omega)
      have c1 := hcell K (by rw [← unhide HN]; exact hKn)
      obtain ⟨y, hy⟩ : ∃ y, y = zs.getD K 0 := ⟨_, rfl⟩
      rw [← hy] at c1
      have HST : Hid (Stands zs [x] K ↔ y = x) := hide (by
        constructor
        · intro h
          have := h 0 (by simp)
          rw [Nat.add_zero, ← hy] at this
          simpa using this
        · intro h i hi
          have : i = 0 := by simpa using hi
          subst this
          rw [Nat.add_zero, ← hy, h]
          rfl)
      have HKK := hide hkK
      clear hcell hs hy hkK
      by_cases hxy : y = x
      · have HE := hide ((LastIs.hit ((unhide HST).2 hxy)).up (m := n) (by omega) (fun i a b => unhide hno i (by have := unhide HKK; omega) b))
        have e1 : ((y : Int) == (x : Int)) = true := by simp [hxy]
        have e1' : (y == x) = true := by simp [hxy]
        clear hno HST hxy
        go_wp2_with fail
        go_ret
        exact ⟨_, rfl, by rw [hK]; exact unhide HE, rfl⟩
      · have HG : Hid (∀ j, K ≤ j → j < n → ¬ Stands zs [x] j) := hide fun j a b => by
          by_cases e : j = K
          · subst e; exact fun h => hxy ((unhide HST).1 h)
          · exact unhide hno j (by have := unhide HKK; omega) b
        have e1 : ((y : Int) == (x : Int)) = false := by simp; omega
        have e1' : (y == x) = false := by simp [hxy]
        clear hno HST hxy
        go_wp2_with fail
        go_roundg K
        case measure => have := unhide HKK; omega
        case rel => exact ⟨K, rfl, by omega, rfl, HG, rfl⟩
    · obtain rfl : k = 0 := by omega
      have HE : Hid (LastIs zs [x] n (-1)) := hide (.inl ⟨rfl, fun j hj => unhide hno j (Nat.zero_le _) hj⟩)
      clear hno
      go_wp2_with fail
      go_ret
      exact ⟨_, rfl, unhide HE, rfl⟩

/-- bytes as an array -/
def sb (zs : List Nat) : ByteArray := ⟨(zs.map UInt8.ofNat).toArray⟩

theorem sb_size (zs : List Nat) : (sb zs).size = zs.length := by simp [sb, ByteArray.size]

theorem sb_list (zs : List Nat) : (sb zs).data.toList = zs.map UInt8.ofNat := by simp [sb]

theorem sb_get {zs : List Nat} (hs : ∀ z ∈ zs, z < 256) (i : Nat) (h : i < (sb zs).size) : ((sb zs)[i]).toNat = zs.getD i 0 := by
  have hl : i < zs.length := by rw [sb_size] at h; exact h
  have h1 : (sb zs)[i] = UInt8.ofNat zs[i] := by
    show (sb zs).data[i] = _
    simp [sb]
  rw [h1]
  have h2 := hs zs[i] (List.getElem_mem hl)
  simp [hl, Nat.mod_eq_of_lt h2]

theorem sb_inj {a b : List Nat} (ha : ∀ z ∈ a, z < 256) (hb : ∀ z ∈ b, z < 256) (h : sb a = sb b) : a = b := by
  have hl : a.length = b.length := by rw [← sb_size, ← sb_size, h]
  refine list_eq hl fun i hi => ?_
  have h1 := sb_get ha i (by rw [sb_size]; exact hi)
  have h2 := sb_get hb i (by rw [sb_size]; omega)
  rw [← h1, ← h2]
  congr 1
  simp only [h]

theorem sb_bytes {B : Nat} {w : World} {a : Option Addr} {cap : Nat} {zs : List Nat} (h : ReadsU B w (.slice a zs.length cap) zs) (hs : ∀ z ∈ zs, z < 256) (h0 : 0 < zs.length) : ∃ b off, a = some ⟨b, off, none⟩ ∧ Lib.Bytes w b off (sb zs) := by
  obtain ⟨a', c', e, _, hc⟩ := h
  injection e with e1 e2 e3
  subst e1
  obtain ⟨b, off, rfl, _, hcell⟩ := hc h0
  refine ⟨b, off, rfl, fun i hi => ?_⟩
  rw [sb_get hs i hi]
  exact hcell i (by rw [sb_size] at hi; exact hi)

theorem stands_sub {zs ys : List Nat} {j : Nat} (hj : j + ys.length ≤ zs.length) : Stands zs ys j ↔ (zs.drop j).take ys.length = ys := by
  constructor
  · intro h
    refine list_eq (by simp; omega) fun i hi => ?_
    have hi' : i < ys.length := by simp at hi; omega
    rw [slice_get _ _ _ _ hi']
    exact h i hi'
  · intro h i hi
    rw [← slice_get zs j ys.length i hi, h]

theorem stands_hash {zs ys : List Nat} {j : Nat} (hj : j + ys.length ≤ zs.length) (h : Stands zs ys j) : RK.win (sb zs).data.toList j ys.length = (sb ys).data.toList := by
  rw [sb_list, sb_list]
  unfold RK.win
  rw [← List.map_drop, ← List.map_take, (stands_sub hj).1 h]

end Go.Proofs.Ytabnfnejlffioaa
