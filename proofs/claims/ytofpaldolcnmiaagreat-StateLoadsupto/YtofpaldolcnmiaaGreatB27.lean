import Derived.Test.YtofpaldolcnmiaaGreatB26
set_option linter.unusedVariables false
namespace Go.Proofs.YtofpaldolcnmiaaGreat.Ig
open Go.Proofs.YtofpaldolcnmiaaGreat Ys
structure Fair {α : Type} (t : Ds → α × Ds) (e : α → List Nat) (ok : α → Prop) (K : Nat) : Prop where
 stop : ∀ x, (∃ y, (t (.stop x)).2 = .stop y) ∧ ok (t (.stop x)).1 ∧ (e (t (.stop x)).1).length ≤ K
 run : ∀ s, B8 s → ok (t (.at s)).1 ∧ ((∃ r, (t (.at s)).2 = .at r ∧ B8 r ∧ (e (t (.at s)).1).length + r.length ≤ s.length) ∨ (∃ y, (t (.at s)).2 = .stop y ∧ (e (t (.at s)).1).length ≤ s.length + K))
section
variable {α β : Type} {t : Ds → α × Ds} {u : Ds → β × Ds} {e : α → List Nat} {f : β → List Nat} {a : α → Prop} {b : β → Prop} {K L : Nat}
theorem Fair.pair (h : Fair t e a K) (k : Fair u f b L) : Fair (tP t u) (eP e f) (okP a b) (K + L) where
 stop x := by
  obtain ⟨⟨y, h1⟩, h2, h3⟩ := h.stop x; obtain ⟨⟨z, k1⟩, k2, k3⟩ := k.stop y; unfold tP eP okP; simp only [h1]; refine ⟨⟨z, k1⟩, ⟨h2, k2⟩, ?_⟩; rw [List.length_append]; omega
 run s hs := by
  obtain ⟨h1, h2⟩ := h.run s hs; unfold tP eP okP; rcases h2 with ⟨r, h2, h3, h4⟩ | ⟨y, h2, h3⟩
  ·obtain ⟨k1, k2⟩ := k.run r h3; simp only [h2]; refine ⟨⟨h1, k1⟩, ?_⟩; rw [List.length_append]; rcases k2 with ⟨r2, k2, k3, k4⟩ | ⟨y, k2, k3⟩
   ·exact .inl ⟨r2, k2, k3, by omega⟩
   ·exact .inr ⟨y, k2, by omega⟩
  ·obtain ⟨⟨z, k1⟩, k2, k3⟩ := k.stop y; simp only [h2]; refine ⟨⟨h1, k2⟩, .inr ⟨z, k1, ?_⟩⟩; rw [List.length_append]; omega
theorem Fair.told (h : Fair t e a K) (g : α → β) (f : β → List Nat) (b : β → Prop) (hg : ∀ x, a x → b (g x) ∧ f (g x) = e x) : Fair (tM g t) f b K where
 stop x := by
  obtain ⟨h1, h2, h3⟩ := h.stop x; obtain ⟨g1, g2⟩ := hg _ h2; unfold tM; simp only [g2]; exact ⟨h1, g1, h3⟩
 run s hs := by
  obtain ⟨h1, h2⟩ := h.run s hs; obtain ⟨g1, g2⟩ := hg _ h1; unfold tM; simp only [g2]; exact ⟨g1, h2⟩
theorem Fair.tn (h : Fair t e a K) : ∀ (n : Nat) (s : List Nat), B8 s → (∀ x ∈ (tN t n (.at s)).1, a x) ∧ ((∃ r, (tN t n (.at s)).2 = .at r ∧ B8 r ∧ ((tN t n (.at s)).1.flatMap e).length + r.length ≤ s.length) ∨ (∃ y, (tN t n (.at s)).2 = .stop y ∧ ((tN t n (.at s)).1.flatMap e).length ≤ s.length + K))
 | 0, s, hs => ⟨(by intro x hx; cases hx), .inl ⟨s, rfl, hs, by simp [tN]⟩⟩
 | n + 1, s, hs => by
  rw [tN]; split
  ·exact ⟨(by intro x hx; cases hx), .inl ⟨s, rfl, hs, by simp⟩⟩
  ·obtain ⟨h1, h2⟩ := h.run s hs; rcases h2 with ⟨r, h2, h3, h4⟩ | ⟨y, h2, h3⟩
   ·obtain ⟨k1, k2⟩ := Fair.tn h n r h3; simp only [h2]; refine ⟨fun x hx => ?_, ?_⟩
    ·rcases List.mem_cons.1 hx with rfl | hx
     ·exact h1
     ·exact k1 x hx
    ·rw [List.flatMap_cons, List.length_append]; rcases k2 with ⟨r2, k2, k3, k4⟩ | ⟨y, k2, k3⟩
     ·exact .inl ⟨r2, k2, k3, by omega⟩
     ·exact .inr ⟨y, k2, by omega⟩
   ·simp only [h2]; rw [tN_zero n (.stop y) rfl]; refine ⟨fun x hx => ?_, .inr ⟨y, rfl, ?_⟩⟩
    ·rcases List.mem_cons.1 hx with rfl | hx
     ·exact h1
     ·cases hx
    ·simpa using h3
theorem vb_mono : ∀ (v u : Nat), u ≤ v → (vb u).length ≤ (vb v).length := by
 intro v; induction v using Nat.strongRecOn with
 | ind v ih =>
  intro u hu; by_cases h : u < 128
  ·rw [vb_small h]; have := vb_ne v; have h1 : (vb v).length ≠ 0 := fun h9 => this (List.eq_nil_of_length_eq_zero h9)
   show 1 ≤ _
   omega
  ·rw [vb_great h, vb_great (by omega : ¬ v < 128)]; simp only [List.length_cons]; have := ih (v / 128) (by omega) (u / 128) (Nat.div_le_div_right hu); omega
theorem Fair.list (h : Fair t e a K) : Fair (tL t) (eL e) (okL a) (K + 1) where
 stop x := by
  rw [tL_stop]; refine ⟨⟨x, rfl⟩, ⟨(by intro x hx; cases hx), by simp⟩, ?_⟩; simp [eL, vb_small]
 run s hs := by
  unfold tL; cases hv : vdec 18446744073709551615 s with
  | ok v r =>
   have ht : tVar 18446744073709551615 (.at s) = (v, .at r) := by simp only [tVar, hv]
   obtain ⟨q1, q2, q3⟩ := vdec_only hs hv; rw [ht]; obtain ⟨k1, k2⟩ := h.tn v r (by rw [q1] at hs; exact hs.right); have hl := tN_len (t := t) v (.at r); have hm := vb_mono v _ hl; have hsl : s.length = (vb v).length + r.length := by rw [q1, List.length_append]
   refine ⟨⟨k1, by show (tN t v (.at r)).1.length < _; omega⟩, ?_⟩; show (∃ r2, (tN t v (.at r)).2 = _ ∧ _ ∧ (eL e (tN t v (.at r)).1).length + _ ≤ _) ∨ (∃ y, (tN t v (.at r)).2 = _ ∧ (eL e (tN t v (.at r)).1).length ≤ _)
   unfold eL; rw [List.length_append]; rcases k2 with ⟨r2, k2, k3, k4⟩ | ⟨y, k2, k3⟩
   ·exact .inl ⟨r2, k2, k3, by omega⟩
   ·exact .inr ⟨y, k2, by omega⟩
  | short =>
   have ht : tVar 18446744073709551615 (.at s) = (0, .stop 30) := by simp only [tVar, hv]
   rw [ht]; refine ⟨⟨(by intro x hx; cases hx), by simp [tN]⟩, .inr ⟨30, rfl, ?_⟩⟩; simp [eL, tN, vb_small]; omega
  | form =>
   have ht : tVar 18446744073709551615 (.at s) = (0, .stop 31) := by simp only [tVar, hv]
   rw [ht]; refine ⟨⟨(by intro x hx; cases hx), by simp [tN]⟩, .inr ⟨31, rfl, ?_⟩⟩; simp [eL, tN, vb_small]; omega
end
theorem var_fair (m : Nat) : Fair (tVar m) vb (fun v => v ≤ m) 1 where
 stop x := ⟨⟨x, rfl⟩, Nat.zero_le _, by simp [tVar, vb_small]⟩
 run s hs := by
  cases hv : vdec m s with
  | ok v r =>
   obtain ⟨q1, q2, q3⟩ := vdec_only hs hv; simp only [tVar, hv]; exact ⟨q3, .inl ⟨r, rfl, by rw [q1] at hs; exact hs.right, by rw [q1, List.length_append]; omega⟩⟩
  | short => simp only [tVar, hv]; exact ⟨Nat.zero_le _, .inr ⟨30, rfl, by simp [vb_small]⟩⟩
  | form => simp only [tVar, hv]; exact ⟨Nat.zero_le _, .inr ⟨31, rfl, by simp [vb_small]⟩⟩
theorem u_fair (m : Nat) : Fair (tU m) eU (okU m) 1 :=
 (var_fair m).told _ _ _ fun x hx => ⟨⟨Int.natCast_nonneg _, by omega⟩, by show vb ((x : Nat) : Int).toNat = vb x; rw [Int.toNat_natCast]⟩
theorem text_fair (m : Nat) : Fair (tText m) eText (fun s => s.length ≤ m ∧ B8 s) 1 where
 stop x := ⟨⟨x, rfl⟩, ⟨Nat.zero_le _, B8.nil⟩, by simp [tText, eText, vb_small]⟩
 run s hs := by
  have hz : (eText []).length = 1 := by simp [eText, vb_small]
  cases hv : vdec m s with
  | ok v r =>
   obtain ⟨q1, q2, q3⟩ := vdec_only hs hv; have hr : B8 r := by rw [q1] at hs; exact hs.right
   simp only [tText, hv]; by_cases hl : r.length < v
   ·simp only [tRaw, hl, if_true]; exact ⟨⟨Nat.zero_le _, B8.nil⟩, .inr ⟨30, rfl, by omega⟩⟩
   ·simp only [tRaw, hl, if_false]; have hlt : (r.take v).length = v := by rw [List.length_take]; omega
    refine ⟨⟨by rw [hlt]; exact q3, hr.take v⟩, .inl ⟨r.drop v, rfl, hr.drop v, ?_⟩⟩; unfold eText; rw [List.length_append, hlt, List.length_drop]; have hsl : s.length = (vb v).length + r.length := by rw [q1, List.length_append]
    omega
  | short => simp only [tText, hv]; exact ⟨⟨Nat.zero_le _, B8.nil⟩, .inr ⟨30, rfl, by omega⟩⟩
  | form => simp only [tText, hv]; exact ⟨⟨Nat.zero_le _, B8.nil⟩, .inr ⟨31, rfl, by omega⟩⟩
theorem x_fair (m : Nat) : Fair (tX m) eX (okX m) 1 :=
 (text_fair m).told _ _ _ fun x hx => ⟨by show (ofNats x).size ≤ m; rw [ons]; exact hx.1, by show eText (nums (ofNats x)) = eText x; rw [nums_ofNats hx.2]⟩
theorem f_fair : Fair tFlag eFlag (fun _ => True) 1 where
 stop x := ⟨⟨x, rfl⟩, trivial, Nat.le_refl _⟩
 run s hs := by
  cases s with
  | nil => exact ⟨trivial, .inr ⟨30, rfl, Nat.le_refl _⟩⟩
  | cons c s =>
   have hs' : B8 s := fun x hx => hs x (List.mem_cons_of_mem _ hx)
   by_cases h0 : c = 0
   ·simp only [tFlag, h0, if_true]; exact ⟨trivial, .inl ⟨s, rfl, hs', by simp [eFlag]; omega⟩⟩
   ·by_cases h1 : c = 1
    ·simp only [tFlag, h1, if_true, if_neg (by decide : ¬ (1 : Nat) = 0)]; exact ⟨trivial, .inl ⟨s, rfl, hs', by simp [eFlag]; omega⟩⟩
    ·simp only [tFlag, h0, h1, if_false]; exact ⟨trivial, .inr ⟨31, rfl, by simp [eFlag]⟩⟩
theorem byte_fair : Fair tByte (fun b => [b]) (fun b => b < 256) 1 where
 stop x := ⟨⟨x, rfl⟩, (by show 0 < 256; decide), Nat.le_refl _⟩
 run s hs := by
  cases s with
  | nil => exact ⟨(by show 0 < 256; decide), .inr ⟨30, rfl, Nat.le_refl _⟩⟩
  | cons c s => exact ⟨hs c (by simp), .inl ⟨s, rfl, fun x hx => hs x (List.mem_cons_of_mem _ hx), by simp; omega⟩⟩
theorem b_fair : Fair tB eB okB 1 :=
 byte_fair.told _ _ _ fun x hx => ⟨⟨Int.natCast_nonneg _, by omega⟩, by show [(((x : Nat) : Int) % 256).toNat] = [x]; congr 1; omega⟩
theorem stamp_fair : Fair tStamp pkN Sm.ok 16 where
 stop x := ⟨⟨x, rfl⟩, st_ok (.stop x), by rw [pkN_length]; omega⟩
 run s hs := by
  refine ⟨st_ok (.at s), ?_⟩; by_cases h : s.length < 16
  ·simp only [tStamp, if_pos h]; exact .inr ⟨30, rfl, by rw [pkN_length]; omega⟩
  ·simp only [tStamp, if_neg h]; exact .inl ⟨s.drop 16, rfl, hs.drop 16, by rw [pkN_length, List.length_drop]; omega⟩
theorem s_fair : Fair tS eS okS 16 := stamp_fair.told _ _ _ fun x hx => ⟨hx, rfl⟩
theorem span_fair : Fair tSpan eSpan okSpan 2 := (x_fair 33).pair (x_fair 33)
theorem write_fair : Fair tWrite eWrite okWrite 3 := ((x_fair 32).pair (f_fair.pair (x_fair 64))).told _ _ _ fun x hx => ⟨⟨hx.1, hx.2.2⟩, rfl⟩
theorem txn_fair : Fair tTxn eTxn okTxn 3 := ((u_fair _).pair ((u_fair _).pair (u_fair _))).told _ _ _ fun x hx => ⟨hx, rfl⟩
theorem held_fair : Fair tHeld eHeld okHeld 26 := (txn_fair.pair (s_fair.pair (span_fair.list.pair write_fair.list))).told _ _ _ fun x hx => ⟨hx, rfl⟩
theorem entry_fair : Fair tEntry eEntry okEntry 20 := (txn_fair.pair (b_fair.pair s_fair)).told _ _ _ fun x hx => ⟨hx, rfl⟩
theorem version_fair : Fair tVersion eVersion okVersion 19 := ((x_fair 32).pair (s_fair.pair (f_fair.pair (x_fair 64)))).told _ _ _ fun x hx => ⟨⟨hx.1, hx.2.1, hx.2.2.2⟩, rfl⟩
theorem img_fair : Fair tImg eImg okImg 86 := (u_fair _).pair ((u_fair _).pair (s_fair.pair (held_fair.list.pair (entry_fair.list.pair version_fair.list))))
theorem img_taken {s : List Nat} (h : B8 s) : okImg (tImg (.at s)).1 ∧ (eImg (tImg (.at s)).1).length ≤ s.length + 86 := by
 obtain ⟨h1, h2⟩ := img_fair.run s h; refine ⟨h1, ?_⟩; rcases h2 with ⟨r, -, -, h3⟩ | ⟨y, -, h3⟩
 ·omega
 ·exact h3
open Go.Proofs.YtofpaldolcnmiaaGreat
def vOne : List Nat → Nat × List Nat
 | [] => (0, [])
 | b :: l => (b, l)
def vNumK : Nat → Nat → Nat → List Nat → Nat × List Nat
 | 0, n, s, l => (n, l)
 | k + 1, n, s, l => if (vOne l).1 < 128 then ((n + (vOne l).1 % 128 * s) % 18446744073709551616, (vOne l).2) else vNumK k ((n + (vOne l).1 % 128 * s) % 18446744073709551616) (s * 128 % 18446744073709551616) (vOne l).2
def vNum (l : List Nat) : Nat × List Nat := vNumK 10 0 1 l
def vBytes (n : Nat) (l : List Nat) : List Nat × List Nat := (l.take n, l.drop n)
def vText (l : List Nat) : List Nat × List Nat := vBytes (vNum l).1 (vNum l).2
def vStamp (l : List Nat) : Sm × List Nat := (if l.length < 16 then zSm else unS (l.take 16), l.drop 16)
theorem vNumK_vb : ∀ (k v n s : Nat) (r : List Nat), v < 128 ^ k → 0 < k → n + v * s < 18446744073709551616 → vNumK k n s (vb v ++ r) = (n + v * s, r)
 | 0, v, n, s, r, _, h0, _ => absurd h0 (by omega)
 | k + 1, v, n, s, r, hv, _, hn => by
  by_cases h : v < 128
  ·rw [vb_small h]; show (if v < 128 then ((n + v % 128 * s) % 18446744073709551616, r) else _) = _
   rw [if_pos h, Nat.mod_eq_of_lt h, Nat.mod_eq_of_lt hn]
  ·rw [vb_great h]; show (if v % 128 + 128 < 128 then _ else vNumK k ((n + (v % 128 + 128) % 128 * s) % 18446744073709551616) (s * 128 % 18446744073709551616) (vb (v / 128) ++ r)) = _
   rw [if_neg (by omega)]; have e1 : (v % 128 + 128) % 128 = v % 128 := by omega
   have e2 : v * s = v % 128 * s + v / 128 * (s * 128) := by
    have : v = v % 128 + v / 128 * 128 := by omega
    conv => lhs; rw [this]
    rw [Nat.add_mul, Nat.mul_assoc, Nat.mul_comm 128 s]
   have h1 : 1 ≤ v / 128 := by omega
   have e3 : s * 128 ≤ v / 128 * (s * 128) := Nat.le_mul_of_pos_left _ h1; have hk : 0 < k := by
    cases k with
    | zero => simp at hv; omega
    | succ k => omega
   have m1 : (n + v % 128 * s) % 18446744073709551616 = n + v % 128 * s := Nat.mod_eq_of_lt (by omega); have m2 : s * 128 % 18446744073709551616 = s * 128 := Nat.mod_eq_of_lt (by omega); rw [e1, m1, m2, vNumK_vb k (v / 128) _ _ r (by rw [Nat.pow_succ] at hv; omega) hk (by omega)]; rw [e2, Nat.add_assoc]
theorem vNum_vb {v : Nat} (hv : v < 18446744073709551616) (r : List Nat) : vNum (vb v ++ r) = (v, r) := by
 unfold vNum
 rw [vNumK_vb 10 v 0 1 r (by have : (128 : Nat) ^ 10 = 1180591620717411303424 := by decide
                             omega) (by omega) (by omega)]
 simp
def onL {α : Type} (z : α) (f : List Nat → α × List Nat) : Ds → α × Ds
 | .at l => ((f l).1, .at (f l).2)
 | .stop e => (z, .stop e)
theorem onL_codec {α : Type} {z : α} {f : List Nat → α × List Nat} {e : α → List Nat} {ok : α → Prop} (h : ∀ x, ok x → ∀ r, f (e x ++ r) = (x, r)) (h1 : ∀ x, ok x → e x ≠ []) (h2 : ∀ x, ok x → ∀ b ∈ e x, b < 256) : Codec (onL z f) e ok :=
 ⟨fun x hx r => by show ((f (e x ++ r)).1, Ds.at (f (e x ++ r)).2) = _; rw [h x hx r], h1, h2⟩
def dVar : Ds → Nat × Ds := onL 0 vNum
theorem dvar_codec : Codec dVar vb (fun v => v < 18446744073709551616) := onL_codec (fun v hv r => vNum_vb hv r) (fun v _ => vb_ne v) (fun v _ => vb_byte v)
def dU64 : Ds → Int × Ds := tM (fun v : Nat => (v : Int)) dVar
def dU32 : Ds → Int × Ds := tM (fun v : Nat => ((v % 4294967296 : Nat) : Int)) dVar
theorem d64_codec : Codec dU64 eU (okU 18446744073709551615) :=
 dvar_codec.told _ _ _ (fun y hy => by have := hy.1; have := hy.2; show y.toNat < 18446744073709551616; omega) (fun y hy => by have := hy.1; show ((y.toNat : Nat) : Int) = y; omega)
theorem d32_codec : Codec dU32 eU (okU 4294967295) :=
 dvar_codec.told _ _ _ (fun y hy => by have := hy.1; have := hy.2; show y.toNat < 18446744073709551616; omega) (fun y hy => by have := hy.1; have := hy.2; show ((y.toNat % 4294967296 : Nat) : Int) = y; omega)
def dText : Ds → List Nat × Ds := onL [] vText
theorem dtext_codec : Codec dText eText (fun s => s.length < 18446744073709551616 ∧ ∀ b ∈ s, b < 256) :=
 onL_codec (fun s hs r => by
  unfold vText vBytes eText; rw [List.append_assoc, vNum_vb hs.1]; simp) (fun s _ hn => vb_ne _ (List.append_eq_nil_iff.1 hn).1) (fun s hs b hb => by
  unfold eText at hb; rcases List.mem_append.1 hb with hb | hb
  ·exact vb_byte _ b hb
  ·exact hs.2 b hb)
def dX : Ds → ByteArray × Ds := tM ofNats dText
def okY (s : ByteArray) : Prop := s.size < 18446744073709551616
theorem dx_codec : Codec dX eX okY :=
 dtext_codec.told _ _ _ (fun y hy => ⟨by rw [nln]; exact hy, nums_b8 y⟩) (fun y _ => ofNats_nums y)
def dByte : Ds → Nat × Ds := onL 0 vOne
theorem dbyte_codec : Codec dByte (fun b => [b]) (fun b => b < 256) := onL_codec (fun b _ r => rfl) (fun b _ h => (by cases h)) (fun b hb c hc => (by simp at hc; omega))
def dB : Ds → Int × Ds := tM (fun v : Nat => (v : Int)) dByte
theorem db_codec : Codec dB eB okB :=
 dbyte_codec.told _ (fun v : Int => (v % 256).toNat) _ (fun y hy => by show (y % 256).toNat < 256; omega) (fun y hy => by have := hy.1; have := hy.2; show (((y % 256).toNat : Nat) : Int) = y; omega)
def dFlag : Ds → Bool × Ds := tM (fun v : Nat => decide (v = 1)) dByte
theorem df_codec : Codec dFlag eFlag (fun _ => True) :=
 ⟨fun b _ r => by cases b <;> rfl, fun b _ h => (by cases h), fun b _ c hc => (by cases b <;> simp [eFlag] at hc <;> omega)⟩
def dStamp : Ds → Sm × Ds := onL zSm vStamp
def dS : Ds → Vs.Sp × Ds := tM (fun x : Sm => (⟨x.w, x.l, x.n⟩ : Vs.Sp)) dStamp
theorem dstamp_codec : Codec dStamp pkN Sm.ok := onL_codec (fun x hx r => by
  have hl := pkN_length x; unfold vStamp; rw [if_neg (by rw [List.length_append]; omega), List.take_left' hl, List.drop_left' hl, unS_pkN hx]) (fun x _ h => by have := pkN_length x; rw [h] at this; simp at this) (fun x _ => pkN_b8 x)
theorem ds_codec : Codec dS eS okS := dstamp_codec.told _ _ _ (fun y hy => hy) (fun y _ => rfl)
def dL {α : Type} (t : Ds → α × Ds) (d : Ds) : List α × Ds := tN t (dVar d).1 (dVar d).2
theorem dl_codec {α : Type} {t : Ds → α × Ds} {e : α → List Nat} {a : α → Prop} (h : Codec t e a) : Codec (dL t) (eL e) (okL a) :=
 ⟨fun l hl r => by
  unfold dL eL; rw [List.append_assoc, dvar_codec.app _ hl.2]; exact tN_app h l hl.1 r, fun l _ hn => vb_ne _ (List.append_eq_nil_iff.1 hn).1, fun l hl b hb => by
  unfold eL at hb; rcases List.mem_append.1 hb with hb | hb
  ·exact vb_byte _ b hb
  ·obtain ⟨x, hx, hb⟩ := List.mem_flatMap.1 hb; exact h.byte x (hl.1 x hx) b hb⟩
def dSpan : Ds → T2 × Ds := tP dX dX
def okSpanD : T2 → Prop := okP okY okY
theorem dspan_codec : Codec dSpan eSpan okSpanD := dx_codec.pair dx_codec
def dWrite : Ds → Wr × Ds := tM (fun p : ByteArray × Bool × ByteArray => (⟨p.1, p.2.1, p.2.2⟩ : Wr)) (tP dX (tP dFlag dX))
def okWriteD (x : Wr) : Prop := okY x.key ∧ okY x.val
theorem dwrite_codec : Codec dWrite eWrite okWriteD :=
 (dx_codec.pair (df_codec.pair dx_codec)).told _ (fun x : Wr => (x.key, x.del, x.val)) _ (fun y hy => ⟨hy.1, trivial, hy.2⟩) (fun y _ => rfl)
def dTxn : Ds → (Lk.Ix × Int) × Ds := tM (fun p : Int × Int × Int => ((p.1, p.2.1), p.2.2)) (tP dU32 (tP dU32 dU32))
theorem dtxn_codec : Codec dTxn eTxn okTxn :=
 (d32_codec.pair (d32_codec.pair d32_codec)).told _ (fun i : Lk.Ix × Int => (i.1.1, i.1.2, i.2)) _ (fun y hy => hy) (fun y _ => rfl)
def dHeld : Ds → Lk.Hd × Ds := tM (fun p : (Lk.Ix × Int) × Vs.Sp × List T2 × List Wr => (⟨p.1.1, p.1.2, p.2.1.a, p.2.1.b, p.2.1.c, p.2.2.1, p.2.2.2⟩ : Lk.Hd)) (tP dTxn (tP dS (tP (dL dSpan) (dL dWrite))))
def okHeldD (h : Lk.Hd) : Prop := okTxn (h.id, h.home) ∧ okS (atHd h) ∧ okL okSpanD h.rs ∧ okL okWriteD h.ws
theorem dheld_codec : Codec dHeld eHeld okHeldD :=
 (dtxn_codec.pair (ds_codec.pair ((dl_codec dspan_codec).pair (dl_codec dwrite_codec)))).told _ (fun h : Lk.Hd => ((h.id, h.home), atHd h, h.rs, h.ws)) _ (fun y hy => hy) (fun y _ => rfl)
def dEntry : Ds → Lg.En × Ds := tM (fun p : (Lk.Ix × Int) × Int × Vs.Sp => (⟨p.1.1, p.1.2, p.2.1, p.2.2.a, p.2.2.b, p.2.2.c⟩ : Lg.En)) (tP dTxn (tP dB dS))
theorem dentry_codec : Codec dEntry eEntry okEntry :=
 (dtxn_codec.pair (db_codec.pair ds_codec)).told _ (fun e : Lg.En => ((e.id, e.home), e.oc, atEn e)) _ (fun y hy => hy) (fun y _ => rfl)
def dVersion : Ds → Vs.Kv × Ds := tM (fun p : ByteArray × Vs.Sp × Bool × ByteArray => ((p.1, ⟨p.2.1, p.2.2.1, p.2.2.2⟩) : Vs.Kv)) (tP dX (tP dS (tP dFlag dX)))
def okVersionD (v : Vs.Kv) : Prop := okY v.1 ∧ okS v.2.s ∧ okY v.2.val
theorem dversion_codec : Codec dVersion eVersion okVersionD :=
 (dx_codec.pair (ds_codec.pair (df_codec.pair dx_codec))).told _ (fun v : Vs.Kv => (v.1, v.2.s, v.2.del, v.2.val)) _ (fun y hy => ⟨hy.1, hy.2.1, trivial, hy.2.2⟩) (fun y _ => rfl)
def dImg : Ds → Im × Ds := tP dU32 (tP dU64 (tP dS (tP (dL dHeld) (tP (dL dEntry) (dL dVersion)))))
def okImgD : Im → Prop := okP (okU 4294967295) (okP (okU 18446744073709551615) (okP okS (okP (okL okHeldD) (okP (okL okEntry) (okL okVersionD)))))
theorem dimg_codec : Codec dImg eImg okImgD :=
 d32_codec.pair (d64_codec.pair (ds_codec.pair ((dl_codec dheld_codec).pair ((dl_codec dentry_codec).pair (dl_codec dversion_codec)))))
def Drops {α : Type} (f : List Nat → α × List Nat) : Prop := ∀ l, (f l).2.length ≤ l.length
theorem one_drops : Drops vOne := fun l => by cases l <;> simp [vOne]
theorem one_eat {l : List Nat} (h : l ≠ []) : (vOne l).2.length < l.length := by
 cases l with
 | nil => exact absurd rfl h
 | cons b l => simp [vOne]
theorem numK_drops : ∀ (k n s : Nat), Drops (vNumK k n s)
 | 0, n, s, l => Nat.le_refl _
 | k + 1, n, s, l => by
  rw [vNumK]; have h := one_drops l; split
  ·exact h
  ·exact Nat.le_trans (numK_drops k _ _ _) h
theorem num_eat {l : List Nat} (h : l ≠ []) : (vNum l).2.length < l.length := by
 unfold vNum; rw [vNumK]; have h1 := one_eat h; split
 ·exact h1
 ·exact Nat.lt_of_le_of_lt (numK_drops _ _ _ _) h1
end Go.Proofs.YtofpaldolcnmiaaGreat.Ig
