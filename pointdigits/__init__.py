"""Fractions written out: the digits behind the point, in any base from 2 to 36, and the way back."""
