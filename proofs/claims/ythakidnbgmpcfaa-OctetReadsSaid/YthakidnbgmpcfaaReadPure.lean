/- Lists and texts there and back in bytes, one way alone: plain lists. -/
import Derived.Test.YthakidnbgmpcfaaReaderMore
namespace Go.Proofs.Ythakidnbgmpcfaa

theorem enc_pos (n : Int) : 0 < (enc n).length := encU_pos _
theorem flatMap_ge (zs : List Int) : zs.length ≤ (zs.flatMap enc).length := by
  induction zs with
  | nil => simp
  | cons z zs ih =>
    have := enc_pos z
    simp only [List.flatMap_cons, List.length_append, List.length_cons]
    omega

theorem readMany_enc : ∀ (zs t : List Int), W64 zs → readMany zs.length (zs.flatMap enc ++ t) = ⟨0, zs, (zs.flatMap enc).length⟩
  | [], _, _ => rfl
  | z :: zs, t, h => by
    have hz := h z (by simp)
    have ih := readMany_enc zs t (fun x hx => h x (by simp [hx]))
    have h1 : readN ((z :: zs).flatMap enc ++ t) = ⟨0, z, (enc z).length⟩ := by
      rw [List.flatMap_cons, List.append_assoc]
      exact readN_enc z hz.1 hz.2 _
    have h2 : ((z :: zs).flatMap enc ++ t).drop (enc z).length = zs.flatMap enc ++ t := by
      rw [List.flatMap_cons, List.append_assoc, List.drop_left]
    rw [List.length_cons, readMany, h1]
    simp only [h2, ih]
    rw [if_neg (by simp), if_neg (by simp), List.flatMap_cons, List.length_append]

theorem readC_enc (n : Nat) (t : List Int) (hn : n ≤ t.length) (hb : (n : Int) ≤ 9223372036854775807) : readC (enc n ++ t) = ⟨0, n, (enc n).length⟩ := by
  unfold readC
  rw [readN_enc n (by omega) hb t]
  rw [if_neg (by simp), if_neg (by show ¬ ((n : Int) < 0); omega), if_neg]
  · rfl
  · show ¬ (((enc (n : Int) ++ t).length : Int) - ((enc (n : Int)).length : Int) < (n : Int))
    rw [List.length_append]
    omega

theorem readL_enc (zs t : List Int) (h : W64 zs) (hb : (zs.length : Int) ≤ 9223372036854775807) : readL (encL zs ++ t) = ⟨0, zs, (encL zs).length⟩ := by
  have hg := flatMap_ge zs
  unfold readL encL
  rw [List.append_assoc, readC_enc zs.length (zs.flatMap enc ++ t) (by simp only [List.length_append]; omega) hb]
  rw [if_neg (by simp), List.drop_left, readMany_enc zs t h]
  rw [if_neg (by simp), List.length_append]

theorem readT_enc (s : ByteArray) (t : List Int) (hb : (s.size : Int) ≤ 9223372036854775807) : readT (encT s ++ t) = ⟨0, strL s, (encT s).length⟩ := by
  unfold readT encT
  rw [List.append_assoc, readC_enc s.size (strL s ++ t) (by rw [List.length_append, strL_length]; omega) hb]
  rw [if_neg (by simp), List.drop_left, List.length_append, strL_length]
  show Got.mk 0 ((strL s ++ t).take s.size) ((enc (s.size : Int)).length + s.size) = _
  rw [← strL_length s, List.take_left]

theorem U8.drop {l : List Int} (h : U8 l) (k : Nat) : U8 (l.drop k) := fun z hz => h z (List.mem_of_mem_drop hz)

theorem got_eta {α : Type} (G : Got α) : G = ⟨G.f, G.v, G.k⟩ := by cases G; rfl

theorem readMany_ok : ∀ (n : Nat) (l : List Int), U8 l → (readMany n l).f = 0 → (readMany n l).v.flatMap enc = l.take (readMany n l).k ∧ (readMany n l).v.length = n ∧ W64 (readMany n l).v
  | 0, l, _, _ => ⟨by simp [readMany], rfl, fun z hz => by simp [readMany] at hz⟩
  | n + 1, l, hu, h => by
    rw [readMany] at h ⊢
    by_cases h0 : (readN l).f ≠ 0
    · rw [if_pos h0] at h; exact absurd h h0
    · rw [if_neg h0] at h ⊢
      by_cases h1 : (readMany n (l.drop (readN l).k)).f ≠ 0
      · rw [if_pos h1] at h; exact absurd h h1
      · rw [if_neg h1] at h ⊢
        have hN : readN l = ⟨0, (readN l).v, (readN l).k⟩ := by
          have := got_eta (readN l)
          have h0' : (readN l).f = 0 := by simpa using h0
          rw [h0'] at this; exact this
        obtain ⟨e1, e2, e3, e4, e5, e6⟩ := readN_ok hu hN
        obtain ⟨i1, i2, i3⟩ := readMany_ok n (l.drop (readN l).k) (hu.drop _) (by simpa using h1)
        refine ⟨?_, by simp [i2], ?_⟩
        · show ((readN l).v :: (readMany n (l.drop (readN l).k)).v).flatMap enc = l.take ((readN l).k + (readMany n (l.drop (readN l).k)).k)
          rw [List.flatMap_cons, e1, i1, List.take_add]
        · intro z hz
          simp only [List.mem_cons] at hz
          rcases hz with rfl | hz
          · exact ⟨e5, e6⟩
          · exact i3 z hz

theorem readC_ok {l : List Int} (hu : U8 l) (h : (readC l).f = 0) : enc ((readC l).v : Int) = l.take (readC l).k := by
  unfold readC at h ⊢
  by_cases h0 : (readN l).f ≠ 0
  · rw [if_pos h0] at h; exact absurd h h0
  · rw [if_neg h0] at h ⊢
    by_cases h1 : (readN l).v < 0
    · rw [if_pos h1] at h; exact absurd h (by decide)
    · rw [if_neg h1] at h ⊢
      by_cases h2 : (l.length : Int) - (readN l).k < (readN l).v
      · rw [if_pos h2] at h; exact absurd h (by decide)
      · rw [if_neg h2]
        have hN : readN l = ⟨0, (readN l).v, (readN l).k⟩ := by
          have := got_eta (readN l)
          have h0' : (readN l).f = 0 := by simpa using h0
          rw [h0'] at this; exact this
        have := (readN_ok hu hN).1
        show enc (((readN l).v.toNat : Nat) : Int) = l.take (readN l).k
        rw [show (((readN l).v.toNat : Nat) : Int) = (readN l).v by omega]
        exact this

theorem readL_ok {l : List Int} (hu : U8 l) (h : (readL l).f = 0) : encL (readL l).v = l.take (readL l).k ∧ W64 (readL l).v ∧ (readL l).v.length ≤ l.length := by
  have hle := readC_le l
  unfold readL at h ⊢
  by_cases h0 : (readC l).f ≠ 0
  · rw [if_pos h0] at h; exact absurd h h0
  · rw [if_neg h0] at h ⊢
    by_cases h1 : (readMany (readC l).v (l.drop (readC l).k)).f ≠ 0
    · rw [if_pos h1] at h; exact absurd h h1
    · rw [if_neg h1] at h ⊢
      obtain ⟨i1, i2, i3⟩ := readMany_ok _ _ (hu.drop (readC l).k) (by simpa using h1)
      have hc := readC_ok hu (by simpa using h0)
      refine ⟨?_, i3, ?_⟩
      · show enc (((readMany (readC l).v (l.drop (readC l).k)).v.length : Nat) : Int) ++ (readMany (readC l).v (l.drop (readC l).k)).v.flatMap enc = l.take ((readC l).k + _)
        rw [i1, i2, hc, List.take_add]
      · show (readMany (readC l).v (l.drop (readC l).k)).v.length ≤ l.length
        rw [i2]; omega

theorem strL_of {l : List Int} (hu : U8 l) : strL (strOfNums l) = l := by
  unfold strL strOfNums
  simp only [List.map_map]
  have : ∀ x ∈ l, ((fun b : UInt8 => (b.toNat : Int)) ∘ fun n : Int => UInt8.ofNat n.toNat) x = x := fun x hx => by
    have := hu x hx
    simp
    omega
  conv => rhs; rw [← List.map_id l]
  exact List.map_congr_left this
theorem strOf_size (l : List Int) : (strOfNums l).size = l.length := by unfold strOfNums; simp [ByteArray.size]

theorem readT_ok {l : List Int} (hu : U8 l) (h : (readT l).f = 0) : encT (strOfNums (readT l).v) = l.take (readT l).k ∧ (readT l).v.length ≤ l.length := by
  have hle := readC_le l
  unfold readT at h ⊢
  by_cases h0 : (readC l).f ≠ 0
  · rw [if_pos h0] at h; exact absurd h h0
  · rw [if_neg h0]
    have hc := readC_ok hu (by simpa using h0)
    have hlen : ((l.drop (readC l).k).take (readC l).v).length = (readC l).v := by simp; omega
    refine ⟨?_, ?_⟩
    · show encT (strOfNums ((l.drop (readC l).k).take (readC l).v)) = l.take ((readC l).k + (readC l).v)
      unfold encT
      rw [strOf_size, hlen, hc, strL_of (fun z hz => hu z (List.mem_of_mem_drop (List.mem_of_mem_take hz))), List.take_add]
    · show ((l.drop (readC l).k).take (readC l).v).length ≤ l.length
      omega

/-- A list's bytes are no beginning of another one's. -/
theorem encL_apart {a b t : List Int} (ha : W64 a) (hb : W64 b) (h1 : (a.length : Int) ≤ 9223372036854775807) (h2 : (b.length : Int) ≤ 9223372036854775807) (h : encL b = encL a ++ t) : a = b := by
  have e1 := readL_enc a t ha h1
  have e2 := readL_enc b [] hb h2
  rw [List.append_nil, h, e1] at e2
  injection e2
theorem encL_prefix {a b : List Int} (ha : W64 a) (hb : W64 b) (h1 : (a.length : Int) ≤ 9223372036854775807) (h2 : (b.length : Int) ≤ 9223372036854775807) (n : Nat) (hn : n = min (encL a).length (encL b).length) (h : (encL a).take n = (encL b).take n) : a = b := by
  by_cases hle : (encL a).length ≤ (encL b).length
  · rw [show n = (encL a).length by omega, List.take_length] at h
    refine encL_apart (t := (encL b).drop (encL a).length) ha hb h1 h2 ?_
    conv => lhs; rw [← List.take_append_drop (encL a).length (encL b)]
    rw [← h]
  · rw [show n = (encL b).length by omega, List.take_length] at h
    refine (encL_apart (t := (encL a).drop (encL b).length) hb ha h2 h1 ?_).symm
    conv => lhs; rw [← List.take_append_drop (encL b).length (encL a)]
    rw [h]
end Go.Proofs.Ythakidnbgmpcfaa
