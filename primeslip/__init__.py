"""Primeslip: slips that show of a number that it is a prime, or that it is none."""
