/- Packed texts: one answer, whatever the steps; less room; bytes that stand as they are. It names no program. Made ahead for stage 7. -/
import Derived.Test.YtppbnodgnphaaaaInfl
namespace Go.Proofs.Ytppbnodgnphaaaa.Infl
set_option linter.unusedVariables false

/-- what the first tells, the second tells -/
def Up {α : Type} (r r' : Rd α) : Prop := ∀ I p, r I p ≠ .more → r' I p = r I p

theorem Up.refl {α : Type} (r : Rd α) : Up r r := fun _ _ _ => rfl
theorem Up.stuck {α : Type} (r : Rd α) : Up (Rd.stuck (α := α)) r := fun _ _ h => absurd rfl h
theorem Up.ite {α : Type} {c : Prop} [Decidable c] {r r' s s' : Rd α} (h : Up r r') (h' : Up s s') : Up (if c then r else s) (if c then r' else s') := by
  split
  · exact h
  · exact h'

theorem Up.bind {α β : Type} {r r' : Rd α} {k k' : α → Rd β} (h : Up r r') (hk : ∀ x, Up (k x) (k' x)) : Up (r.bind k) (r'.bind k') := fun I p hne => by
  unfold Rd.bind at hne ⊢
  cases hr : r I p with
  | ok x q =>
    rw [hr] at hne
    rw [h I p (by rw [hr]; simp), hr]
    exact hk x I q hne
  | bad e => rw [h I p (by rw [hr]; simp), hr]
  | more => rw [hr] at hne; exact absurd rfl hne

theorem Up.trans {α : Type} {r s t : Rd α} (h : Up r s) (h' : Up s t) : Up r t := fun I p hne => by
  have h1 := h I p hne
  rw [h' I p (by rw [h1]; exact hne), h1]

section
variable {g : List Nat → (Nat → Bool) → Nat → Nat × Nat × Nat} {ce : List Nat → Nat → Bool → Nat}

theorem Up.toks (lits dists : List Nat) (most : Nat) : ∀ k k' out, k ≤ k' → Up (toks g lits dists most k out) (toks g lits dists most k' out)
  | 0, k', out, _ => Up.stuck _
  | k + 1, 0, out, h => by omega
  | k + 1, k' + 1, out, h => (Up.refl _).bind fun o => match o with
    | none => Up.refl _
    | some o' => Up.toks lits dists most k k' o' (by omega)

theorem Up.told (most f f' : Nat) (out : List Nat) (h : f ≤ f') : Up (told g ce most f out) (told g ce most f' out) :=
  (Up.refl _).bind fun l => (Up.refl _).bind fun d => (Up.refl _).bind fun k => .ite (.refl _) ((Up.refl _).bind fun vs => .ite ((Up.refl _).bind fun all => .ite (.refl _) (.ite (.ite (Up.toks _ _ _ _ _ _ h) (.refl _)) (.refl _))) (.refl _))

theorem Up.block (most f f' : Nat) (out : List Nat) (h : f ≤ f') : Up (block g ce most f out) (block g ce most f' out) :=
  (Up.refl _).bind fun last => (Up.refl _).bind fun kind => (Up.ite (.refl _) (.ite (Up.toks _ _ _ _ _ _ h) (.ite (Up.told _ _ _ _ h) (.refl _)))).bind fun o => .refl _

theorem Up.blocks (most f f' : Nat) (h : f ≤ f') : ∀ k k' out, k ≤ k' → Up (blocks g ce most f k out) (blocks g ce most f' k' out)
  | 0, k', out, _ => Up.stuck _
  | k + 1, 0, out, h => by omega
  | k + 1, k' + 1, out, hk => (Up.block most f f' out h).bind fun r => .ite (.refl _) (Up.blocks most f f' h k k' r.2 (by omega))

variable (g ce)

/-- what is told of bits -/
def Tells (I : In) (most : Nat) (r : Res (List Nat)) : Prop := r ≠ .more ∧ ∃ f k, blocks g ce most f k [] I 0 = r

variable {g ce}

theorem Tells.one {I : In} {most : Nat} {r r' : Res (List Nat)} (h : Tells g ce I most r) (h' : Tells g ce I most r') : r = r' := by
  obtain ⟨h1, f, k, e⟩ := h
  obtain ⟨h1', f', k', e'⟩ := h'
  have a := Up.blocks (g := g) (ce := ce) most f (max f f') (by omega) k (max k k') [] (by omega) I 0 (by rw [e]; exact h1)
  have b := Up.blocks (g := g) (ce := ce) most f' (max f f') (by omega) k' (max k k') [] (by omega) I 0 (by rw [e']; exact h1')
  rw [← e, ← e', ← a, ← b]

theorem Tells.le (hg : GL g) {I : In} {most q : Nat} {out : List Nat} (h : Tells g ce I most (.ok out q)) : q ≤ I.m := by
  obtain ⟨_, f, k, e⟩ := h
  exact ((Loc.blocks hg most f k []).le I 0 out q (Nat.zero_le _) e).2

/-- what stands behind is not looked at -/
theorem Tells.ext (hg : GL g) {I J : In} {most q : Nat} {out : List Nat} (h : Tells g ce I most (.ok out q)) (ha : Agree I J q) (hq : q ≤ J.m) : Tells g ce J most (.ok out q) := by
  obtain ⟨h1, f, k, e⟩ := h
  exact ⟨h1, f, k, (Loc.blocks hg most f k []).ext I J 0 out q (Nat.zero_le _) e ha hq⟩

/-- fewer bits never tell a text -/
theorem Tells.cut (hg : GL g) {I J : In} {most q : Nat} {out : List Nat} (h : Tells g ce I most (.ok out q)) (ha : Agree I J J.m) (hq : J.m < q) : Tells g ce J most (.bad 10) := by
  obtain ⟨h1, f, k, e⟩ := h
  exact ⟨by simp, f, k, (Loc.blocks hg most f k []).cut I J 0 out q (Nat.zero_le _) e ha (Nat.zero_le _) hq⟩

/-- an error that is not that bits end stays with more bits -/
theorem Tells.err (hg : GL g) {I J : In} {most e : Nat} (h : Tells g ce I most (.bad e)) (h10 : e ≠ 10) (ha : Agree I J I.m) (hm : I.m ≤ J.m) : Tells g ce J most (.bad e) := by
  obtain ⟨h1, f, k, e'⟩ := h
  exact ⟨h1, f, k, (Loc.blocks hg most f k []).err I J 0 e (Nat.zero_le _) e' h10 ha hm⟩

/-- less room never tells another text -/
def Room (F : Nat → List Nat → Rd (List Nat)) : Prop := ∀ M N out I p out' q, out.length ≤ N → F M out I p = .ok out' q → out.length ≤ out'.length ∧ (out'.length ≤ N → F N out I p = .ok out' q) ∧ (N < out'.length → F N out I p = .bad 3)

theorem tok_room (lits dists : List Nat) {M N : Nat} {out : List Nat} {I : In} {p q : Nat} {o : Option (List Nat)} (hN : out.length ≤ N) (h : tok g lits dists M out I p = .ok o q) :
    (o = none → tok g lits dists N out I p = .ok none q) ∧ ∀ out', o = some out' → out.length ≤ out'.length ∧ (out'.length ≤ N → tok g lits dists N out I p = .ok (some out') q) ∧ (N < out'.length → tok g lits dists N out I p = .bad 3) := by
  unfold tok at h ⊢
  obtain ⟨s, p1, h1, h2⟩ := bind_ok h
  rw [bind_of h1]
  by_cases e1 : s = 256
  · simp only [if_pos e1] at h2 ⊢
    simp only [Rd.pure, Res.ok.injEq] at h2
    obtain ⟨rfl, rfl⟩ := h2
    exact ⟨fun _ => rfl, fun out' e => by cases e⟩
  · simp only [if_neg e1] at h2 ⊢
    by_cases e2 : s < 256
    · simp only [if_pos e2] at h2 ⊢
      by_cases e3 : M ≤ out.length
      · rw [if_pos e3] at h2; cases h2
      · rw [if_neg e3] at h2
        simp only [Rd.pure, Res.ok.injEq] at h2
        obtain ⟨rfl, rfl⟩ := h2
        refine ⟨fun e => (by cases e), fun out' e => ?_⟩
        injection e with e
        subst e
        simp only [List.length_append, List.length_cons, List.length_nil]
        refine ⟨by omega, fun hl => by rw [if_neg (by omega)]; rfl, fun hl => by rw [if_pos (by omega)]; rfl⟩
    · simp only [if_neg e2] at h2 ⊢
      by_cases e4 : 285 < s
      · rw [if_pos e4] at h2; cases h2
      · simp only [if_neg e4] at h2 ⊢
        obtain ⟨x, p2, h3, h4⟩ := bind_ok h2
        rw [bind_of h3]
        obtain ⟨d, p3, h5, h6⟩ := bind_ok h4
        rw [bind_of h5]
        by_cases e5 : 29 < d
        · rw [if_pos e5] at h6; cases h6
        · simp only [if_neg e5] at h6 ⊢
          obtain ⟨y, p4, h7, h8⟩ := bind_ok h6
          rw [bind_of h7]
          by_cases e6 : out.length < (distOf d).1 + y
          · rw [if_pos e6] at h8; cases h8
          · simp only [if_neg e6] at h8 ⊢
            by_cases e7 : M < out.length + ((lenOf s).1 + x)
            · rw [if_pos e7] at h8; cases h8
            · rw [if_neg e7] at h8
              simp only [Rd.pure, Res.ok.injEq] at h8
              obtain ⟨rfl, rfl⟩ := h8
              refine ⟨fun e => (by cases e), fun out' e => ?_⟩
              injection e with e
              subst e
              rw [cp_length]
              refine ⟨by omega, fun hl => by rw [if_neg (by omega)]; rfl, fun hl => by rw [if_pos (by omega)]; rfl⟩

theorem Room.toks (lits dists : List Nat) : ∀ k, Room (fun M out => toks g lits dists M k out)
  | 0 => fun M N out I p out' q hN h => by cases h
  | k + 1 => fun M N out I p out' q hN h => by
    obtain ⟨o, p1, h1, h2⟩ := bind_ok h
    have ht := tok_room lits dists hN h1
    cases o with
    | none =>
      simp only [Rd.pure, Res.ok.injEq] at h2
      obtain ⟨rfl, rfl⟩ := h2
      exact ⟨Nat.le_refl _, fun _ => by show (tok g lits dists N out).bind _ I p = _; rw [bind_of (ht.1 rfl)]; rfl, fun h => by omega⟩
    | some o' =>
      obtain ⟨l1, l2, l3⟩ := ht.2 o' rfl
      by_cases hl : o'.length ≤ N
      · obtain ⟨r1, r2, r3⟩ := Room.toks lits dists k M N o' I p1 out' q hl h2
        exact ⟨by omega, fun h => by show (tok g lits dists N out).bind _ I p = _; rw [bind_of (l2 hl)]; exact r2 h, fun h => by show (tok g lits dists N out).bind _ I p = _; rw [bind_of (l2 hl)]; exact r3 h⟩
      · have hle : o'.length ≤ out'.length := (Room.toks lits dists k M o'.length o' I p1 out' q (Nat.le_refl _) h2).1
        exact ⟨by omega, fun h => by omega, fun _ => by show (tok g lits dists N out).bind _ I p = _; rw [bind_bad (l3 (by omega))]⟩

theorem bytes_len : ∀ n out I p out' q, bytes n out I p = .ok out' q → out'.length = out.length + n
  | 0, out, I, p, out', q, h => by
    simp only [bytes, Rd.pure, Res.ok.injEq] at h
    rw [← h.1]; rfl
  | n + 1, out, I, p, out', q, h => by
    obtain ⟨b, p1, h1, h2⟩ := bind_ok h
    have := bytes_len n _ I p1 out' q h2
    simp at this
    omega

theorem Room.stored : Room stored := fun M N out I p out' q hN h => by
  unfold Infl.stored at h ⊢
  obtain ⟨u, p1, h1, h2⟩ := bind_ok h
  obtain ⟨n, p2, h3, h4⟩ := bind_ok h2
  obtain ⟨m, p3, h5, h6⟩ := bind_ok h4
  rw [bind_of h1, bind_of h3, bind_of h5]
  by_cases e1 : m ≠ 65535 - n
  · rw [if_pos e1] at h6; cases h6
  · simp only [if_neg e1] at h6 ⊢
    by_cases e2 : M < out.length + n
    · rw [if_pos e2] at h6; cases h6
    · rw [if_neg e2] at h6
      have hl := bytes_len n out I p3 out' q h6
      exact ⟨by omega, fun h => by rw [if_neg (by omega)]; exact h6, fun h => by rw [if_pos (by omega)]; rfl⟩

theorem okE_ok {α : Type} {e : Nat} {r : Rd α} {I : In} {p q : Nat} {x : α} (h : okE e r I p = .ok x q) : e = 0 ∧ r I p = .ok x q := by
  unfold okE at h
  by_cases e0 : e = 0
  · rw [if_pos e0] at h; exact ⟨e0, h⟩
  · rw [if_neg e0] at h; cases h

theorem okE_of {α : Type} {e : Nat} (r : Rd α) (h : e = 0) : okE e r = r := if_pos h

theorem Room.told (f : Nat) : Room (fun M out => told g ce M f out) := fun M N out I p out' q hN h => by
  simp only [Infl.told] at h ⊢
  obtain ⟨l, p1, h1, h2⟩ := bind_ok h
  obtain ⟨d, p2, h3, h4⟩ := bind_ok h2
  obtain ⟨k, p3, h5, h6⟩ := bind_ok h4
  rw [bind_of h1, bind_of h3, bind_of h5]
  by_cases e1 : 286 < l + 257 ∨ 30 < d + 1
  · rw [if_pos e1] at h6; cases h6
  · simp only [if_neg e1] at h6 ⊢
    obtain ⟨vs, p4, h7, h8⟩ := bind_ok h6
    rw [bind_of h7]
    obtain ⟨e2, h9⟩ := okE_ok h8
    simp only [okE_of _ e2]
    obtain ⟨all, p5, h10, h11⟩ := bind_ok h9
    rw [bind_of h10]
    by_cases e3 : all.getD 256 0 = 0
    · rw [if_pos e3] at h11; cases h11
    · simp only [if_neg e3] at h11 ⊢
      obtain ⟨e4, h12⟩ := okE_ok h11
      obtain ⟨e5, h13⟩ := okE_ok h12
      simp only [okE_of _ e4, okE_of _ e5]
      exact Room.toks _ _ f M N out I p5 out' q hN h13

theorem block_room (f : Nat) {M N : Nat} {out : List Nat} {I : In} {p q : Nat} {r : Nat × List Nat} (hN : out.length ≤ N) (h : block g ce M f out I p = .ok r q) :
    out.length ≤ r.2.length ∧ (r.2.length ≤ N → block g ce N f out I p = .ok r q) ∧ (N < r.2.length → block g ce N f out I p = .bad 3) := by
  unfold block at h ⊢
  obtain ⟨last, p1, h1, h2⟩ := bind_ok h
  obtain ⟨kind, p2, h3, h4⟩ := bind_ok h2
  rw [bind_of h1, bind_of h3]
  obtain ⟨o, p3, h5, h6⟩ := bind_ok h4
  simp only [Rd.pure, Res.ok.injEq] at h6
  obtain ⟨rfl, rfl⟩ := h6
  have key : out.length ≤ o.length ∧ (o.length ≤ N → (if kind = 0 then stored N out else if kind = 1 then toks g fixedL fixedD N f out else if kind = 2 then told g ce N f out else Rd.fail 16) I p2 = .ok o p3) ∧ (N < o.length → (if kind = 0 then stored N out else if kind = 1 then toks g fixedL fixedD N f out else if kind = 2 then told g ce N f out else Rd.fail 16) I p2 = .bad 3) := by
    by_cases k0 : kind = 0
    · simp only [if_pos k0] at h5 ⊢
      exact Room.stored M N out I p2 o p3 hN h5
    · simp only [if_neg k0] at h5 ⊢
      by_cases k1 : kind = 1
      · simp only [if_pos k1] at h5 ⊢
        exact Room.toks _ _ f M N out I p2 o p3 hN h5
      · simp only [if_neg k1] at h5 ⊢
        by_cases k2 : kind = 2
        · simp only [if_pos k2] at h5 ⊢
          exact Room.told f M N out I p2 o p3 hN h5
        · rw [if_neg k2] at h5; cases h5
  exact ⟨key.1, fun h => by rw [bind_of (key.2.1 h)]; rfl, fun h => by rw [bind_bad (key.2.2 h)]⟩

theorem Room.blocks (f : Nat) : ∀ k, Room (fun M out => blocks g ce M f k out)
  | 0 => fun M N out I p out' q hN h => by cases h
  | k + 1 => fun M N out I p out' q hN h => by
    obtain ⟨r, p1, h1, h2⟩ := bind_ok h
    obtain ⟨l1, l2, l3⟩ := block_room f hN h1
    show _ ∧ (_ → (block g ce N f out).bind _ I p = _) ∧ (_ → (block g ce N f out).bind _ I p = _)
    by_cases hr : r.1 = 1
    · simp only [if_pos hr, Rd.pure, Res.ok.injEq] at h2
      obtain ⟨rfl, rfl⟩ := h2
      exact ⟨l1, fun h => by rw [bind_of (l2 h)]; simp only [if_pos hr]; rfl, fun h => by rw [bind_bad (l3 h)]⟩
    · simp only [if_neg hr] at h2
      by_cases hl : r.2.length ≤ N
      · obtain ⟨r1, r2, r3⟩ := Room.blocks f k M N r.2 I p1 out' q hl h2
        exact ⟨by omega, fun h => by rw [bind_of (l2 hl)]; simp only [if_neg hr]; exact r2 h, fun h => by rw [bind_of (l2 hl)]; simp only [if_neg hr]; exact r3 h⟩
      · have hle := (Room.blocks f k M r.2.length r.2 I p1 out' q (Nat.le_refl _) h2).1
        exact ⟨by omega, fun h => by omega, fun _ => by rw [bind_bad (l3 (by omega))]⟩

/-- less room -/
theorem Tells.room {I : In} {M N q : Nat} {out : List Nat} (h : Tells g ce I M (.ok out q)) : (out.length ≤ N → Tells g ce I N (.ok out q)) ∧ (N < out.length → Tells g ce I N (.bad 3)) := by
  obtain ⟨h1, f, k, e⟩ := h
  obtain ⟨_, h2, h3⟩ := Room.blocks f k M N [] I 0 out q (Nat.zero_le _) e
  exact ⟨fun h => ⟨by simp, f, k, h2 h⟩, fun h => ⟨by simp, f, k, h3 h⟩⟩
end

end Go.Proofs.Ytppbnodgnphaaaa.Infl
