/- What is taken, from the last round back. (It names no program.) -/
import Derived.Test.YtdpbjeajipggbaaRounds
namespace Go.Proofs.Ytdpbjeajipggbaa.Merge

/-- how many coins are taken when k rounds from the last one back are over -/
def tk (wl : List Nat) (M T : Nat) : Nat → Nat
  | 0 => T
  | k + 1 => 2 * (tk wl M T k - alone wl (M - 1 - k) (tk wl M T k))

/-- how many symbols stand alone among them -/
def al (wl : List Nat) (M T k : Nat) : Nat := alone wl (M - 1 - k) (tk wl M T k)

/-- a symbol's length when k rounds are over -/
def len (order wl : List Nat) (M T : Nat) : Nat → Nat → Nat
  | 0, _ => 0
  | k + 1, i => len order wl M T k i + (order.take (al wl M T k)).count i

theorem tk_le (wl : List Nat) (M T : Nat) (hT : T ≤ (wr wl (M - 1)).length) : ∀ k, k < M → tk wl M T k ≤ (wr wl (M - 1 - k)).length
  | 0, _ => hT
  | k + 1, h => by
    have h1 := tk_le wl M T hT k (by omega)
    have e : M - 1 - k = (M - 1 - (k + 1)) + 1 := by omega
    rw [e] at h1
    have := alone_next wl (M - 1 - (k + 1)) (tk wl M T k) h1
    rw [← e] at this
    exact this

theorem len_cnt (order wl : List Nat) (M T i : Nat) : ∀ k, k < M → cnt order wl (M - 1) T i = len order wl M T k i + cnt order wl (M - 1 - k) (tk wl M T k) i
  | 0, _ => by simp [len, tk]
  | k + 1, h => by
    rw [len_cnt order wl M T i k (by omega)]
    obtain ⟨q, hq⟩ : ∃ q, M - 1 - k = q + 1 := ⟨M - 1 - k - 1, by omega⟩
    have hq2 : M - 1 - (k + 1) = q := by omega
    rw [hq2, len, al, hq, cnt, tk, hq]
    omega

/-- when all are over, it is what the first T coins of the last round say -/
theorem len_all (order wl : List Nat) (M T i : Nat) (hM : 1 ≤ M) : len order wl M T M i = cnt order wl (M - 1) T i := by
  obtain ⟨q, rfl⟩ : ∃ q, M = q + 1 := ⟨M - 1, by omega⟩
  rw [len_cnt order wl (q + 1) T i q (by omega), len, al]
  have e : q + 1 - 1 - q = 0 := by omega
  rw [e, cnt]

theorem al_le (wl : List Nat) (M T k : Nat) (hT : T ≤ (wr wl (M - 1)).length) (hk : k < M) : al wl M T k ≤ wl.length ∧ al wl M T k ≤ tk wl M T k := by
  have := alone_le wl (M - 1 - k) _ (tk_le wl M T hT k hk)
  exact ⟨this.1, this.2.1⟩

theorem al_get (wl : List Nat) (M T k : Nat) (hT : T ≤ (wr wl (M - 1)).length) (hk : k < M) : (ahd wl (bk wl (M - 1 - k))).getD (tk wl M T k) 0 = al wl M T k := by
  have := tk_le wl M T hT k hk
  rw [wr_length] at this
  exact ahd_get wl (bk wl (M - 1 - k)) _ this

theorem len_le (order wl : List Nat) (hd : order.Nodup) (M T i : Nat) : ∀ k, len order wl M T k i ≤ k
  | 0 => by simp [len]
  | k + 1 => by
    have h1 := len_le order wl hd M T i k
    have h2 := take_count hd (al wl M T k) i
    rw [len]
    omega

/-- the lengths that the document's words make -/
theorem len_out (w : Nat → Nat) (order : List Nat) (M : Nat) (hM : 1 ≤ M) (hn : order.length ≤ 2 ^ M) (i : Nat) : len order (fs (baseOf w order)) M (2 * order.length - 2) M i = out w order M i := by
  rw [len_all order _ M _ i hM]
  unfold out
  refine cnt_ok w order i (M - 1) _ ?_
  rw [← (bk_fs (baseOf w order) (M - 1)).2, fs_length]
  exact enough w order M hM hn

end Go.Proofs.Ytdpbjeajipggbaa.Merge
